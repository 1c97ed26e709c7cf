import Derived.Test.YtfopfhlohihihaaGreatSad
namespace Go.Proofs.YtfopfhlohihihaaGreat
open Go.RowKit
set_option linter.unusedVariables false
set_option linter.unusedSimpArgs false
theorem oneW_name {s : ByteArray} {j : Nat} (h : got isL s j = true) : oneW s j = nameW s j := by rw [oneW,if_pos h]
theorem oneW_num {s : ByteArray} {j : Nat} (h : got isL s j = false) (h2 : got isDig s j = true) : oneW s j = numW s j := by rw [oneW,if_neg (by rw [h]; simp),if_pos h2]
theorem oneW_quo {s : ByteArray} {j : Nat} (h : got isL s j = false) (h2 : got isDig s j = false) (h3 : got (isB 39) s j = true) : oneW s j = quoW s j := by rw [oneW,if_neg (by rw [h]; simp),if_neg (by rw [h2]; simp),if_pos h3]
theorem oneW_sgn {s : ByteArray} {j : Nat} (h : got isL s j = false) (h2 : got isDig s j = false) (h3 : got (isB 39) s j = false) : oneW s j = sgnW s j := by rw [oneW,if_neg (by rw [h]; simp),if_neg (by rw [h2]; simp),if_neg (by rw [h3]; simp)]
set_option maxRecDepth 100000 in
set_option maxHeartbeats 2000000 in
theorem word_any' {g : Nat} {s : ByteArray} {k : Nat} {w : World} (h : Rr w g s k) (hs : s.size ≤ 400) (hk : k ≤ s.size) :
  Calls Tryz.prog 43 #[.pointer (some ⟨g,0,none⟩)] w fun e w' => e = .returned (wrA (wordW s k)) ∧ But g w w' ∧ ((wordW s k).er = 0 → Rr w' g s (wordW s k).nx) := by
 have hgl := h.lt
 have hge := till_ge (isB 32) s k
 have hle := till_le (p := isB 32) hk
 have h0 := h.alloc (.cells #[.int .i64 0,.string ⟨#[]⟩,.int .i64 0,.int .i64 0] 44)
 have z0 := Zr.new w
 have HI : Hid (∀ n w',_) := fun n w' => is_any n w'
 have HK : Hid (∀ (v : Value) (w' : World),Rr w' g s k → Such g (isB 32) w' v → _) := fun v w' hr hv => skip_any hr (by omega) hk hv
 have HX : Hid (∀ (p : UInt8 → Bool) (v : Value) (w' : World),Rr w' g s (till (isB 32) s k) → Such g p w' v → _) := fun p v w' hr hv => next_any hr (by omega) hle hv
 unfold wordW
 generalize till (isB 32) s k = j at *
 have hwj : IntKind.i64.wrap (j : Int) = j := by rw [IntKind.wrap_i64]; omega
 by_cases hjs : j = s.size
 ·rw [show endW s j = wrd (6,⟨#[]⟩,0,j) j from by rw [endW,if_pos hjs]]
  have gj : ((j : Int) == (s.size : Int)) = true := by simp; omega
  clear HX
  replace hjs : Hid _ := hjs
  go_enter Tryz.func43,Tryz.ntmps43
  go_wp2_with fail
  refine Calls.mono (HI.out 32 _) ?_
  rintro e w1 ⟨v1,rfl,hv1,hb1⟩
  have hr1 := h0.later hb1
  have z1 := z0.later hb1
  have hb : But g w w1 := (But.of hb1).behind
  replace hv1 := hv1 g (by simp; omega)
  clear hb1 h z0 h0
  go_wp2_with fail
  refine Calls.mono (HK.out v1 w1 hr1 hv1) ?_
  rintro e w2 ⟨rfl,hr2,hb2⟩
  have z2 := z1.but hb2 (by omega)
  replace hb := hb.trans hb2
  have k0 := hr2.c0
  have k1 := hr2.c1
  clear hb2 hr1 z1 hv1 HK
  go_wp2
  go_quiet (fail)
  have hr3 := hr2.drewN nq
  have z3 : Zr (w2.drewN nq) w.heap.size := ⟨z2.row⟩
  replace hb := hb.rdrew nq
  clear k0 k1 hr2 z2
  generalize w2.drewN nq = w3 at *
  have k1 := hr3.c1
  obtain ⟨c0,c1,c2,c3⟩ := z3.cells
  obtain ⟨f0,f1,f2,f3⟩ := z3.free
  go_wp2
  all_goals refine bodyPost_ret (v := wrA (wrd (6,⟨#[]⟩,0,j) j)) (by simp [results,Tryz.results43,go_sem,c0,c1,c2,c3,wrA,tkA,wrd]) rfl ⟨rfl,hb.new4 (Nat.le_refl _) _ _ _ _,fun _ => hr3.other4 (by omega) _ _ _ _⟩
 rw [show endW s j = oneW s j from by rw [endW,if_neg hjs]]
 have gj : ((j : Int) == (s.size : Int)) = false := by simp; omega
 have hjl : j < s.size := by omega
 replace hjs : Hid _ := hjs
 cases g1 : got isL s j with
 | true =>
  rw [oneW_name g1]
  go_enter Tryz.func43,Tryz.ntmps43
  go_wp2_with fail
  refine Calls.mono (HI.out 32 _) ?_
  rintro e w1 ⟨v1,rfl,hv1,hb1⟩
  have hr1 := h0.later hb1
  have z1 := z0.later hb1
  have hb : But g w w1 := (But.of hb1).behind
  replace hv1 := hv1 g (by simp; omega)
  clear hb1 h z0 h0
  go_wp2_with fail
  refine Calls.mono (HK.out v1 w1 hr1 hv1) ?_
  rintro e w2 ⟨rfl,hr2,hb2⟩
  have z2 := z1.but hb2 (by omega)
  replace hb := hb.trans hb2
  have k0 := hr2.c0
  have k1 := hr2.c1
  clear hb2 hr1 z1 hv1 HK
  go_wp2
  go_quiet (fail)
  have hr3 := hr2.drewN nq
  have z3 : Zr (w2.drewN nq) w.heap.size := ⟨z2.row⟩
  replace hb := hb.rdrew nq
  clear k0 k1 hr2 z2
  generalize w2.drewN nq = w3 at *
  go_wp2_with fail
  refine Calls.mono (HX.out _ _ w3 hr3 (such_letter g _)) ?_
  rw [g1]
  rintro e w4 ⟨rfl,hb4⟩
  have hr4 := hr3.later hb4
  have z4 := z3.later hb4
  replace hb := hb.trans (But.of hb4)
  clear hb4 hr3 z3
  have HS : Hid _ := name_any hr4 hs hle
  rw [wrA,tkA] at HS
  clear HX HI
  go_wp2_with fail
  refine Calls.mono HS.out ?_
  rintro e w5 ⟨rfl,hb5,hr5⟩
  have z5 := z4.but hb5 (by omega)
  replace hb := hb.trans hb5
  obtain ⟨c0,c1,c2,c3⟩ := z5.cells
  obtain ⟨f0,f1,f2,f3⟩ := z5.free
  clear hb5 hr4 z4 HS
  go_wp2
  all_goals refine bodyPost_ret (v := wrA (nameW s j)) (by simp [results,Tryz.results43,go_sem,c0,c1,c2,c3,wrA,tkA]) rfl ⟨rfl,hb.new4 (Nat.le_refl _) _ _ _ _,fun k => (hr5 k).other4 (by omega) _ _ _ _⟩
 | false =>
 cases g2 : got isDig s j with
 | true =>
  rw [oneW_num g1 g2]
  go_enter Tryz.func43,Tryz.ntmps43
  go_wp2_with fail
  refine Calls.mono (HI.out 32 _) ?_
  rintro e w1 ⟨v1,rfl,hv1,hb1⟩
  have hr1 := h0.later hb1
  have z1 := z0.later hb1
  have hb : But g w w1 := (But.of hb1).behind
  replace hv1 := hv1 g (by simp; omega)
  clear hb1 h z0 h0
  go_wp2_with fail
  refine Calls.mono (HK.out v1 w1 hr1 hv1) ?_
  rintro e w2 ⟨rfl,hr2,hb2⟩
  have z2 := z1.but hb2 (by omega)
  replace hb := hb.trans hb2
  have k0 := hr2.c0
  have k1 := hr2.c1
  clear hb2 hr1 z1 hv1 HK
  go_wp2
  go_quiet (fail)
  have hr3 := hr2.drewN nq
  have z3 : Zr (w2.drewN nq) w.heap.size := ⟨z2.row⟩
  replace hb := hb.rdrew nq
  clear k0 k1 hr2 z2
  generalize w2.drewN nq = w3 at *
  go_wp2_with fail
  refine Calls.mono (HX.out _ _ w3 hr3 (such_letter g _)) ?_
  rw [g1]
  rintro e w4 ⟨rfl,hb4⟩
  have hr4 := hr3.later hb4
  have z4 := z3.later hb4
  replace hb := hb.trans (But.of hb4)
  clear hb4 hr3 z3
  go_wp2_with fail
  refine Calls.mono (HX.out _ _ w4 hr4 (such_digit g _)) ?_
  rw [g2]
  rintro e w5 ⟨rfl,hb5⟩
  have hr5 := hr4.later hb5
  have z5 := z4.later hb5
  replace hb := hb.trans (But.of hb5)
  clear hb5 hr4 z4
  have HS : Hid _ := number_any hr5 hs hle g2
  rw [wrA,tkA] at HS
  clear HX HI
  go_wp2_with fail
  refine Calls.mono HS.out ?_
  rintro e w6 ⟨rfl,hb6,hr6⟩
  have z6 := z5.but hb6 (by omega)
  replace hb := hb.trans hb6
  obtain ⟨c0,c1,c2,c3⟩ := z6.cells
  obtain ⟨f0,f1,f2,f3⟩ := z6.free
  clear hb6 hr5 z5 HS
  go_wp2
  all_goals refine bodyPost_ret (v := wrA (numW s j)) (by simp [results,Tryz.results43,go_sem,c0,c1,c2,c3,wrA,tkA]) rfl ⟨rfl,hb.new4 (Nat.le_refl _) _ _ _ _,fun k => (hr6 k).other4 (by omega) _ _ _ _⟩
 | false =>
 cases g3 : got (isB 39) s j with
 | true =>
  rw [oneW_quo g1 g2 g3]
  go_enter Tryz.func43,Tryz.ntmps43
  go_wp2_with fail
  refine Calls.mono (HI.out 32 _) ?_
  rintro e w1 ⟨v1,rfl,hv1,hb1⟩
  have hr1 := h0.later hb1
  have z1 := z0.later hb1
  have hb : But g w w1 := (But.of hb1).behind
  replace hv1 := hv1 g (by simp; omega)
  clear hb1 h z0 h0
  go_wp2_with fail
  refine Calls.mono (HK.out v1 w1 hr1 hv1) ?_
  rintro e w2 ⟨rfl,hr2,hb2⟩
  have z2 := z1.but hb2 (by omega)
  replace hb := hb.trans hb2
  have k0 := hr2.c0
  have k1 := hr2.c1
  clear hb2 hr1 z1 hv1 HK
  go_wp2
  go_quiet (fail)
  have hr3 := hr2.drewN nq
  have z3 : Zr (w2.drewN nq) w.heap.size := ⟨z2.row⟩
  replace hb := hb.rdrew nq
  clear k0 k1 hr2 z2
  generalize w2.drewN nq = w3 at *
  go_wp2_with fail
  refine Calls.mono (HX.out _ _ w3 hr3 (such_letter g _)) ?_
  rw [g1]
  rintro e w4 ⟨rfl,hb4⟩
  have hr4 := hr3.later hb4
  have z4 := z3.later hb4
  replace hb := hb.trans (But.of hb4)
  clear hb4 hr3 z3
  go_wp2_with fail
  refine Calls.mono (HX.out _ _ w4 hr4 (such_digit g _)) ?_
  rw [g2]
  rintro e w5 ⟨rfl,hb5⟩
  have hr5 := hr4.later hb5
  have z5 := z4.later hb5
  replace hb := hb.trans (But.of hb5)
  clear hb5 hr4 z4
  go_wp2_with fail
  refine Calls.mono (HI.out 39 _) ?_
  rintro e w6 ⟨v6,rfl,hv,hb6⟩
  have hr6 := hr5.later hb6
  have z6 := z5.later hb6
  replace hb := hb.trans (But.of hb6)
  replace hv := hv g hr5.lt
  clear hb6 hr5 z5
  go_wp2_with fail
  refine Calls.mono (HX.out _ _ w6 hr6 hv) ?_
  rw [g3]
  rintro e w7 ⟨rfl,hb7⟩
  have hr7 := hr6.later hb7
  have z7 := z6.later hb7
  replace hb := hb.trans (But.of hb7)
  clear hb7 hr6 z6
  clear hv
  have HS : Hid _ := quoted_any hr7 hs hjl
  rw [wrA,tkA] at HS
  clear HX HI
  go_wp2_with fail
  refine Calls.mono HS.out ?_
  rintro e w8 ⟨rfl,hb8,hr8⟩
  have z8 := z7.but hb8 (by omega)
  replace hb := hb.trans hb8
  obtain ⟨c0,c1,c2,c3⟩ := z8.cells
  obtain ⟨f0,f1,f2,f3⟩ := z8.free
  clear hb8 hr7 z7 HS
  go_wp2
  all_goals refine bodyPost_ret (v := wrA (quoW s j)) (by simp [results,Tryz.results43,go_sem,c0,c1,c2,c3,wrA,tkA]) rfl ⟨rfl,hb.new4 (Nat.le_refl _) _ _ _ _,fun k => (hr8 k).other4 (by omega) _ _ _ _⟩
 | false =>
  rw [oneW_sgn g1 g2 g3]
  go_enter Tryz.func43,Tryz.ntmps43
  go_wp2_with fail
  refine Calls.mono (HI.out 32 _) ?_
  rintro e w1 ⟨v1,rfl,hv1,hb1⟩
  have hr1 := h0.later hb1
  have z1 := z0.later hb1
  have hb : But g w w1 := (But.of hb1).behind
  replace hv1 := hv1 g (by simp; omega)
  clear hb1 h z0 h0
  go_wp2_with fail
  refine Calls.mono (HK.out v1 w1 hr1 hv1) ?_
  rintro e w2 ⟨rfl,hr2,hb2⟩
  have z2 := z1.but hb2 (by omega)
  replace hb := hb.trans hb2
  have k0 := hr2.c0
  have k1 := hr2.c1
  clear hb2 hr1 z1 hv1 HK
  go_wp2
  go_quiet (fail)
  have hr3 := hr2.drewN nq
  have z3 : Zr (w2.drewN nq) w.heap.size := ⟨z2.row⟩
  replace hb := hb.rdrew nq
  clear k0 k1 hr2 z2
  generalize w2.drewN nq = w3 at *
  go_wp2_with fail
  refine Calls.mono (HX.out _ _ w3 hr3 (such_letter g _)) ?_
  rw [g1]
  rintro e w4 ⟨rfl,hb4⟩
  have hr4 := hr3.later hb4
  have z4 := z3.later hb4
  replace hb := hb.trans (But.of hb4)
  clear hb4 hr3 z3
  go_wp2_with fail
  refine Calls.mono (HX.out _ _ w4 hr4 (such_digit g _)) ?_
  rw [g2]
  rintro e w5 ⟨rfl,hb5⟩
  have hr5 := hr4.later hb5
  have z5 := z4.later hb5
  replace hb := hb.trans (But.of hb5)
  clear hb5 hr4 z4
  go_wp2_with fail
  refine Calls.mono (HI.out 39 _) ?_
  rintro e w6 ⟨v6,rfl,hv,hb6⟩
  have hr6 := hr5.later hb6
  have z6 := z5.later hb6
  replace hb := hb.trans (But.of hb6)
  replace hv := hv g hr5.lt
  clear hb6 hr5 z5
  go_wp2_with fail
  refine Calls.mono (HX.out _ _ w6 hr6 hv) ?_
  rw [g3]
  rintro e w7 ⟨rfl,hb7⟩
  have hr7 := hr6.later hb7
  have z7 := z6.later hb7
  replace hb := hb.trans (But.of hb7)
  clear hb7 hr6 z6
  clear hv
  have HS : Hid _ := sign_any hr7 hs hle
  rw [wrA,tkA] at HS
  clear HX HI
  go_wp2_with fail
  refine Calls.mono HS.out ?_
  rintro e w8 ⟨rfl,hb8,hr8⟩
  have z8 := z7.but hb8 (by omega)
  replace hb := hb.trans hb8
  obtain ⟨c0,c1,c2,c3⟩ := z8.cells
  obtain ⟨f0,f1,f2,f3⟩ := z8.free
  clear hb8 hr7 z7 HS
  go_wp2
  all_goals refine bodyPost_ret (v := wrA (sgnW s j)) (by simp [results,Tryz.results43,go_sem,c0,c1,c2,c3,wrA,tkA]) rfl ⟨rfl,hb.new4 (Nat.le_refl _) _ _ _ _,fun k => (hr8 k).other4 (by omega) _ _ _ _⟩
def tth (l : List Tk) (i : Nat) : Tk := l[i]?.getD (0,⟨#[]⟩,0,0)
def Ct (w : World) (b o : Nat) (t : Tk) : Prop := w.cell? ⟨b,o,none⟩ = some (.int .i64 t.1) ∧ w.cell? ⟨b,o + 1,none⟩ = some (.string t.2.1) ∧ w.cell? ⟨b,o + 2,none⟩ = some (.int .i64 t.2.2.1) ∧ w.cell? ⟨b,o + 3,none⟩ = some (.int .i64 t.2.2.2)
theorem Ct.later {w w' : World} {b o : Nat} {t : Tk} (h : Ct w b o t) (hb : Below w.heap.size w w') : Ct w' b o t := ⟨cell_later hb h.1,cell_later hb h.2.1,cell_later hb h.2.2.1,cell_later hb h.2.2.2⟩
structure RdT (w : World) (ao : Option Addr) (n c : Nat) (ts : List Tk) : Prop where
 len : ts.length = n
 cap : n ≤ c
 max : c ≤ 9223372036854775807
 non : ao = none → c = 0
 cells : 0 < n → ∃ b o,ao = some ⟨b,o,none⟩ ∧ ∀ i,i < n → Ct w b (o + i * 4) (tth ts i)
theorem RdT.nil (w : World) : RdT w none 0 0 [] := ⟨rfl,Nat.le_refl _,by omega,fun _ => rfl,fun h => absurd h (Nat.lt_irrefl _)⟩
theorem RdT.later {w w' : World} {ao : Option Addr} {n c : Nat} {ts : List Tk} (h : RdT w ao n c ts) (hb : Below w.heap.size w w') : RdT w' ao n c ts :=
 ⟨h.len,h.cap,h.max,h.non,fun hn => by
  obtain ⟨b,o,ha,hc⟩ := h.cells hn
  exact ⟨b,o,ha,fun i hi => (hc i hi).later hb⟩⟩
theorem Tryz.info44 : (Tryz.prog.info? 44).map (fun i => (i.zero,i.size,i.bytes)) = some (some (.agg #[.int .i64 0,.string ⟨#[]⟩,.int .i64 0,.int .i64 0]),4,40) := by kernel_rfl
def cellsT (t : Tk) : List Value := [.int .i64 t.1,.string t.2.1,.int .i64 t.2.2.1,.int .i64 t.2.2.2]
def OwnT (B : Nat) (w : World) (v : Value) (l : List Tk) : Prop := w.ownsRow B 44 4 v l.length (l.flatMap cellsT)
theorem OwnT.nil (B : Nat) (w : World) : OwnT B w (.slice none 0 0) [] := World.ownsRow_nil w B 44 4
theorem OwnT.alloc {B : Nat} {w : World} {v : Value} {l : List Tk} (h : OwnT B w v l) (o : Obj) : OwnT B (w.alloc o) v l := World.ownsRow.alloc h o
theorem OwnT.later {B : Nat} {w w' : World} {v : Value} {l : List Tk} (h : OwnT B w v l) (hb : Below w.heap.size w w') : OwnT B w' v l := by
 refine ⟨h.1,?_⟩
 rcases h.2 with k | ⟨g,cap,cur,hv,hg,hh,r⟩
 ·exact .inl k
 ·exact .inr ⟨g,cap,cur,hv,hg,by rw [hb.block g (Array.getElem?_eq_some_iff.1 hh).1]; exact hh,r⟩
theorem OwnT.but {B g : Nat} {w w' : World} {v : Value} {l : List Tk} (h : OwnT B w v l) (hb : But g w w') (hg : g < B) : OwnT B w' v l := by
 refine ⟨h.1,?_⟩
 rcases h.2 with k | ⟨b,cap,cur,hv,hg',hh,r⟩
 ·exact .inl k
 ·exact .inr ⟨b,cap,cur,hv,hg',by rw [hb.block b (Array.getElem?_eq_some_iff.1 hh).1 (by omega)]; exact hh,r⟩
theorem cells_at : ∀ {l : List Tk} {i : Nat},i < l.length → (l.flatMap cellsT)[i * 4]? = some (.int .i64 (tth l i).1) ∧ (l.flatMap cellsT)[i * 4 + 1]? = some (.string (tth l i).2.1) ∧ (l.flatMap cellsT)[i * 4 + 2]? = some (.int .i64 (tth l i).2.2.1) ∧ (l.flatMap cellsT)[i * 4 + 3]? = some (.int .i64 (tth l i).2.2.2)
 | [],i,h => by simp at h
 | v :: l,0,h => ⟨rfl,rfl,rfl,rfl⟩
 | v :: l,i + 1,h => by
  have ih := cells_at (l := l) (i := i) (by simpa using h)
  have e : tth (v :: l) (i + 1) = tth l i := by simp [tth]
  have el : (cellsT v).length = 4 := rfl
  rw [e,List.flatMap_cons,show (i + 1) * 4 = i * 4 + 4 from by omega]
  refine ⟨?_,?_,?_,?_⟩
  ·rw [List.getElem?_append_right (by rw [el]; omega),show i * 4 + 4 - (cellsT v).length = i * 4 from by rw [el]; omega]; exact ih.1
  ·rw [List.getElem?_append_right (by rw [el]; omega),show i * 4 + 4 + 1 - (cellsT v).length = i * 4 + 1 from by rw [el]; omega]; exact ih.2.1
  ·rw [List.getElem?_append_right (by rw [el]; omega),show i * 4 + 4 + 2 - (cellsT v).length = i * 4 + 2 from by rw [el]; omega]; exact ih.2.2.1
  ·rw [List.getElem?_append_right (by rw [el]; omega),show i * 4 + 4 + 3 - (cellsT v).length = i * 4 + 3 from by rw [el]; omega]; exact ih.2.2.2
theorem OwnT.rd {B : Nat} {w : World} {v : Value} {l : List Tk} (h : OwnT B w v l) : ∃ ao c,v = .slice ao l.length c ∧ RdT w ao l.length c l := by
 rcases h.2 with ⟨rfl,h0⟩ | ⟨g,cap,cur,rfl,hb,hg,hn,hc,hs,ht⟩
 ·have : l = [] := List.eq_nil_of_length_eq_zero h0
  subst this
  exact ⟨none,0,rfl,RdT.nil w⟩
 ·refine ⟨_,cap,rfl,⟨rfl,hn,hc,fun e => by simp at e,fun hp => ⟨g,0,rfl,fun i hi => ?_⟩⟩⟩
  have c0 := World.ownsRow.cellAt h (i * 4) (by omega)
  have c1 := World.ownsRow.cellAt h (i * 4 + 1) (by omega)
  have c2 := World.ownsRow.cellAt h (i * 4 + 2) (by omega)
  have c3 := World.ownsRow.cellAt h (i * 4 + 3) (by omega)
  obtain ⟨e0,e1,e2,e3⟩ := cells_at hi
  rw [Nat.zero_add]
  exact ⟨c0.trans e0,c1.trans e1,c2.trans e2,c3.trans e3⟩
theorem OwnT.below {B : Nat} {w w' : World} {v : Value} {l : List Tk} (h : OwnT B w v l) (hB : B ≤ w.heap.size) (hg : w.grownBy w' v.ownBlock) : Below B w w' :=
 below_grown (Below.refl B w) hB h (Nat.le_refl _) hg
theorem Ct.news {w : World} {g : Nat} {v : Tk} (h : Ct w g 0 v) : ∀ (j : Nat) (u : Value),(cellsT v)[j]? = some u → w.cell? ((⟨g,0,none⟩ : Addr).add j) = some u := by
 intro j u hj
 match j,hj with
 | 0,hj => simp [cellsT] at hj; subst hj; simpa [Addr.add] using h.1
 | 1,hj => simp [cellsT] at hj; subst hj; simpa [Addr.add] using h.2.1
 | 2,hj => simp [cellsT] at hj; subst hj; simpa [Addr.add] using h.2.2.1
 | 3,hj => simp [cellsT] at hj; subst hj; simpa [Addr.add] using h.2.2.2
 | j + 4,hj => simp [cellsT] at hj
theorem Ct.new (w : World) (v : Tk) (e : TypeId) : Ct (w.alloc (.cells #[.int .i64 v.1,.string v.2.1,.int .i64 v.2.2.1,.int .i64 v.2.2.2] e)) w.heap.size 0 v :=
 ⟨cell_new w _ e (0,0) 0,cell_new w _ e (0,0) 1,cell_new w _ e (0,0) 2,cell_new w _ e (0,0) 3⟩
theorem run_appT (w : World) (B : Nat) (ty : TypeId) (v : Value) (l : List Tk) (g : Nat) (x : Tk) (hown : OwnT B w v l) (hx : Ct w g 0 x) (hl : l.length ≤ 1000) (hB : B ≤ w.heap.size) :
  ∃ v' w',(Builtin.append_ #[40,40] ty #[v,.slice (some ⟨g,0,none⟩) 1 1]).run Tryz.prog w = .ok v' w' ∧ OwnT B w' v' (l ++ [x]) ∧ w.grownBy w' v.ownBlock := by
 obtain ⟨i,hi,hz,hsz,hby⟩ := info_parts Tryz.info44
 obtain ⟨v',w',hr,h2,h3,_⟩ := run_append_own (P := Tryz.prog) w B 40 ty 44 i _ 4 40 Tryz.underlying40 hi hz hsz hby rfl (by omega) v l.length _ hown ⟨g,0,none⟩ 1 1 (cellsT x) rfl hx.news
  (by intro u hu; simp [cellsT] at hu; rcases hu with rfl | rfl | rfl | rfl <;> rfl) (by unfold maxLen; omega) (by omega) hB
 refine ⟨v',w',hr,?_,h3⟩
 unfold OwnT
 simpa using h2
theorem wpList_appT {w : World} {ops : Array Oper} {rest : List Oper} {o : Oper} {a : Act} {Q : Exit → Act → World → Prop} (hgd : o.guard = none) (s x : Operand)
  (ho : o.op = .call { callee := .builtin .append,args := #[s,x],argTypes := #[40,40] }) (B : Nat) (v : Value) (l : List Tk) (g : Nat) (y : Tk) (hs : a.eval s = v) (hx : a.eval x = .slice (some ⟨g,0,none⟩) 1 1) (hown : OwnT B w v l) (hy : Ct w g 0 y)
  (hl : l.length ≤ 1000) (hB : B ≤ w.heap.size)
  (h : ∀ v' w',OwnT B w' v' (l ++ [y]) → Below B w w' → (∀ k,k < w.heap.size → some k ≠ v.ownBlock → w'.heap[k]? = w.heap[k]?) → wpList Tryz.prog ops Q rest (a.put o.dst v') w') : wpList Tryz.prog ops Q (o :: rest) a w :=
 wpList_plain hgd fun _ hK => by
  obtain ⟨v',w',hr,h2,h3⟩ := run_appT w B o.type v l g y hown hy hl hB
  unfold Oper.wp execOp
  simp only [ho,resolve,invoke,builtin,Sem.run_bind,Sem.run_pure,Result.andThen_ok,List.map_toArray,List.map_cons,List.map_nil,hs,hx,hr]
  exact hK _ _ (h v' w' h2 (hown.below hB h3) fun k hk hv => h3.block k hk hv)
theorem OwnT.apart {B : Nat} {w : World} {v : Value} {l : List Tk} (h : OwnT B w v l) {g : Nat} (hg : w.heap.size ≤ g) : some g ≠ v.ownBlock := fun e => by
 have := (World.ownsRow.lt h g e.symm).2
 omega
theorem Lx.zero {s : ByteArray} {k : Nat} {l : List Tk} {a e : Int} (h : Lx s k l a e) (he : e = 0) : a = 0 := by
 rcases h.step with ⟨h1,_,_,rfl⟩ | ⟨_,_,_,rfl,_⟩ | ⟨_,_,_,_,rfl,_⟩ | ⟨_,_,_,h4,_⟩
 ·exact absurd he h1
 ·rfl
 ·rfl
 ·exact absurd he h4
theorem Lx.none {s : ByteArray} {k : Nat} {l : List Tk} {a e : Int} (h : Lx s k l a e) (he : e ≠ 0) : l = [] := by
 rcases h.step with ⟨_,rfl,_⟩ | ⟨_,_,_,_,rfl⟩ | ⟨_,_,_,_,_,rfl,_⟩ | ⟨_,_,rfl,_⟩
 ·rfl
 ·exact absurd rfl he
 ·exact absurd rfl he
 ·rfl
def Up (s : ByteArray) (k : Nat) (l : List Tk) : Prop := ∀ ts a e,Lx s k ts a e → (e = 0 → Lx s 0 (l ++ ts) a e) ∧ (e ≠ 0 → Lx s 0 [] a e)
theorem Up.start (s : ByteArray) : Up s 0 [] := fun ts a e h => ⟨fun _ => h,fun he => by rw [h.none he] at h; exact h⟩
theorem Up.more {s : ByteArray} {k : Nat} {l : List Tk} (u : Up s k l) (h1 : (wordW s k).er = 0) (h2 : (wordW s k).tk.1 ≠ 6) : Up s (wordW s k).nx (l ++ [(wordW s k).tk]) := by
 intro ts a e h
 refine ⟨fun he => ?_,fun he => ?_⟩
 ·subst he
  obtain rfl := h.zero rfl
  have := (u _ _ _ (Lx.more k ts h1 h2 h)).1 rfl
  simpa using this
 ·obtain rfl := h.none he
  exact (u _ _ _ (Lx.far k a e h1 h2 h he)).2 he
theorem Up.fin {s : ByteArray} {k : Nat} {l : List Tk} (u : Up s k l) (h1 : (wordW s k).er = 0) (h2 : (wordW s k).tk.1 = 6) : Lx s 0 (l ++ [(wordW s k).tk]) 0 0 := (u _ _ _ (Lx.fin k h1 h2)).1 rfl
theorem Up.bad {s : ByteArray} {k : Nat} {l : List Tk} (u : Up s k l) (h1 : (wordW s k).er ≠ 0) : Lx s 0 [] (wordW s k).pl (wordW s k).er := (u _ _ _ (Lx.bad k h1)).2 h1
theorem Rr.new (w : World) (s : ByteArray) : Rr (w.alloc (.cells #[.string s,.int .i64 0] 93)) w.heap.size s 0 := ⟨heap_alloc_new w _⟩
set_option maxRecDepth 100000 in
set_option maxHeartbeats 2000000 in
theorem lex_any (s : ByteArray) (hs : s.size ≤ 9223372036854775807) (w : World) : Calls Tryz.prog 30 #[.string s] w fun e w' => ∃ ao n c ts a f,e = .returned (.tuple #[.slice ao n c,.int .i64 a,.int .i64 f]) ∧ RdT w' ao n c ts ∧ LexR s ts a f ∧ Below w.heap.size w w' := by
 by_cases h4 : 400 < s.size
 ·go_enter Tryz.func30,Tryz.ntmps30
  go_wp2
  refine bodyPost_ret (v := .tuple #[.slice none 0 0,.int .i64 0,.int .i64 7]) (by simp [results,Tryz.results30]) rfl ⟨none,0,0,[],0,7,rfl,RdT.nil _,.inl ⟨h4,rfl,rfl,rfl⟩,Below.refl _ _⟩
 ·have hs4 : s.size ≤ 400 := by omega
  have HW : Hid (∀ (k : Nat) (w' : World),Rr w' w.heap.size s k → k ≤ s.size → _) := fun k w' hr hk => word_any' hr hs4 hk
  go_enter Tryz.func30,Tryz.ntmps30
  go_wp2
  go_loopw [2] (fun u wr => ∃ (k : Nat) (l : List Tk),k ≤ s.size ∧ l.length ≤ k ∧ Rr wr w.heap.size s k ∧ OwnT (w.heap.size + 1) wr u l ∧ Below w.heap.size w wr ∧ w.heap.size + 1 ≤ wr.heap.size ∧ Hid (Up s k l)) (fun _ wr => s.size - rdAt w.heap.size wr)
  case atStart => exact ⟨0,[],Nat.zero_le _,Nat.le_refl _,Rr.new w s,OwnT.nil _ _,(Below.refl _ _).alloc (Nat.le_refl _) _,by simp,Up.start s⟩
  case round =>
   obtain ⟨k,l,hk,hl,hr,ho,hB,hz,HU⟩ := hrel
   have hm := hr.at
   have H : Hid _ := HW.out k wr hr hk
   rw [wrA,tkA] at H
   have HO : Hid _ := wordW_on (s := s) (k := k) hk
   by_cases he : (wordW s k).er = 0
   ·have HN : Hid ((wordW s k).tk.1 ≠ 6 → k < (wordW s k).nx ∧ (wordW s k).nx ≤ s.size) := fun h6 => by
     rcases HO.out he with h | h
     ·exact absurd h.1 h6
     ·exact h.2
    have HF : Hid ((wordW s k).tk.1 = 6 → Lx s 0 (l ++ [(wordW s k).tk]) 0 0) := fun h6 => HU.out.fin he h6
    have HM : Hid ((wordW s k).tk.1 ≠ 6 → Up s (wordW s k).nx (l ++ [(wordW s k).tk])) := fun h6 => HU.out.more he h6
    clear HW HO HU
    generalize wordW s k = W at *
    obtain ⟨tk,nx,pl,er⟩ := W
    replace he : er = 0 := he
    subst he
    go_wp2_with fail
    refine Calls.mono H.out ?_
    rintro e w1 ⟨rfl,hb1,hr1⟩
    have hr2 : Rr w1 w.heap.size s nx := hr1 (by first | trivial | rfl)
    have hB1 := hb1.below hB (Nat.le_refl _) hB.size
    have ho1 := ho.but hb1 (Nat.lt_succ_self _)
    have hz1 := Nat.le_trans hz hb1.size
    clear H hb1 hr1 ho hB hr
    go_wp2_with (first | (at_builtin; refine wpList_appT rfl (.tmp 23) (.tmp 25) rfl (w.heap.size + 1) _ l (w1.heap.size + 1) tk rfl rfl ((ho1.alloc _).alloc _) (by simpa using Ct.new (w1.alloc (.cells #[.int .i64 tk.1,.string tk.2.1,.int .i64 tk.2.2.1,.int .i64 tk.2.2.2] 44)) tk 44) (by omega) (by simp; omega) ?_) | fail)
    intro v' w4 hO4 hb4 hk4
    have hap : some w1.heap.size ≠ u2.ownBlock := ho1.apart (Nat.le_refl _)
    have hq := hk4 w1.heap.size (by omega) hap
    have c0 : w4.cell? ⟨w1.heap.size,0,none⟩ = some (.int .i64 tk.1) := by
     refine (World.cell?_of_block (a := ⟨w1.heap.size,0,none⟩) hq).trans ?_
     exact cell_later ((Below.refl _ _).alloc (Nat.le_refl _) _) (Ct.new w1 tk 44).1
    have hr4 := ((hr2.alloc (.cells #[.int .i64 tk.1,.string tk.2.1,.int .i64 tk.2.2.1,.int .i64 tk.2.2.2] 44)).alloc (.cells #[.int .i64 tk.1,.string tk.2.1,.int .i64 tk.2.2.1,.int .i64 tk.2.2.2] 44)).below hb4 (Nat.lt_succ_self _)
    have hB4 : Below w.heap.size w w4 := ((hB1.alloc hB1.size _).alloc (by have := hB1.size; simp; omega) _).trans (hb4.mono (Nat.le_succ _))
    have hz4 : w.heap.size + 1 ≤ w4.heap.size := Nat.le_trans (by simp; omega) hb4.size
    clear hk4 hap hq hb4 hr2 hB1 ho1 hz1
    by_cases h6 : tk.1 = 6
    ·have HX := HF.out h6
     have g6 : (tk.1 == 6) = true := by simpa using h6
     clear HF HM HN
     obtain ⟨oo,q,hv,hrd⟩ := hO4.rd
     subst hv
     go_wp2
     refine bodyPost_ret (v := .tuple #[.slice oo (l ++ [tk]).length q,.int .i64 0,.int .i64 0]) (by simp [results,Tryz.results30]) rfl ⟨oo,(l ++ [tk]).length,q,l ++ [tk],0,0,rfl,hrd,.inr ⟨hs4,HX⟩,hB4⟩
    ·have HX : Hid _ := HM.out h6
     obtain ⟨hn1,hn2⟩ := HN.out h6
     have g6 : (tk.1 == 6) = false := by simpa using h6
     have hm4 := hr4.at
     clear HF HM HN
     go_wp2
     go_roundw
     case rel => exact ⟨nx,l ++ [tk],hn2,by simp; omega,hr4,hO4,hB4,hz4,HX⟩
     case measure => omega
   ·have HF : Hid _ := HU.out.bad he
    clear HW HO HU
    generalize wordW s k = W at *
    have ge : (W.er == 0) = false := by simpa using he
    go_wp2_with fail
    refine Calls.mono H.out ?_
    rintro e w1 ⟨rfl,hb1,hr1⟩
    have hB1 := hb1.below hB (Nat.le_refl _) hB.size
    clear H hb1 hr1
    go_wp2
    refine bodyPost_ret (v := .tuple #[.slice none 0 0,.int .i64 W.pl,.int .i64 W.er]) (by simp [results,Tryz.results30]) rfl ⟨none,0,0,[],W.pl,W.er,rfl,RdT.nil _,.inr ⟨hs4,HF.out⟩,hB1.alloc hB1.size _⟩
def lxF : Nat → ByteArray → Nat → List Tk × Int × Int
 | 0,_,_ => ([],0,99)
 | n + 1,s,k =>
  if (wordW s k).er ≠ 0 then ([],(wordW s k).pl,(wordW s k).er)
  else if (wordW s k).tk.1 = 6 then ([(wordW s k).tk],0,0)
  else if (lxF n s (wordW s k).nx).2.2 = 0 then ((wordW s k).tk :: (lxF n s (wordW s k).nx).1,0,0)
  else ([],(lxF n s (wordW s k).nx).2.1,(lxF n s (wordW s k).nx).2.2)
theorem lxF_ok {s : ByteArray} : ∀ (n k : Nat) (l : List Tk) (a e : Int),lxF n s k = (l,a,e) → e ≠ 99 → Lx s k l a e := by
 intro n
 induction n with
 | zero => intro k l a e h he; rw [lxF] at h; cases h; exact absurd rfl he
 | succ n ih =>
  intro k l a e h he
  rw [lxF] at h
  split at h
  ·rename_i h1
   cases h
   exact Lx.bad k h1
  ·rename_i h1
   have h1' : (wordW s k).er = 0 := Decidable.not_not.1 h1
   split at h
   ·rename_i h2
    cases h
    exact Lx.fin k h1' h2
   ·rename_i h2
    generalize hr : lxF n s (wordW s k).nx = r at h
    obtain ⟨l',a',e'⟩ := r
    split at h
    ·rename_i h3
     have h3' : e' = 0 := h3
     subst h3'
     cases h
     have := ih _ _ _ _ hr (by omega)
     obtain rfl := this.zero rfl
     exact Lx.more k l' h1' h2 this
    ·rename_i h3
     have h3' : e' ≠ 0 := h3
     cases h
     have := ih _ _ _ _ hr he
     obtain rfl := this.none h3'
     exact Lx.far k _ _ h1' h2 this h3'
theorem lexR_of {s : ByteArray} {l : List Tk} {a e : Int} (n : Nat) (hs : s.size ≤ 400) (h : lxF n s 0 = (l,a,e)) (he : e ≠ 99) : LexR s l a e := .inr ⟨hs,lxF_ok n 0 l a e h he⟩
end Go.Proofs.YtfopfhlohihihaaGreat
