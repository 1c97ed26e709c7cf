import Derived.Test.YtfopfhlohihihaaGreatSab
namespace Go.Proofs.YtfopfhlohihihaaGreat
open Go.RowKit
set_option linter.unusedVariables false
set_option linter.unusedSimpArgs false
theorem clone_any (s : ByteArray) (hs : s.size ≤ 500) (w : World) : Calls Tryz.prog 105 #[.string s] w fun e w' => e = .returned (.string s) ∧ Below w.heap.size w w' := by
 have H : Hid _ := Tryz.stringslite_Clone s w (by omega)
 go_enter Tryz.func105,Tryz.ntmps105
 go_wp2_with fail
 refine Calls.mono H.out ?_
 rintro e w1 ⟨rfl,hb⟩
 clear H
 go_wp2
 go_ret
 exact ⟨rfl,hb⟩
theorem extract_size (s : ByteArray) (a b : Nat) : (s.extract a b).size ≤ s.size := by rw [ByteArray.size_extract]; omega
set_option maxRecDepth 100000 in
theorem since_any {g : Nat} {s : ByteArray} {j k : Nat} {w : World} (h : Rr w g s k) (hs : s.size ≤ 500) (hjk : j ≤ k) (hk : k ≤ s.size) :
  Calls Tryz.prog 90 #[.pointer (some ⟨g,0,none⟩),.int .i64 (j : Int)] w fun e w' => e = .returned (.string (s.extract j k)) ∧ Below w.heap.size w w' := by
 have c0 := h.c0
 have c1 := h.c1
 have HC : Hid (∀ w,_) := fun w => clone_any (s.extract j k) (Nat.le_trans (extract_size s j k) hs) w
 clear h
 go_enter Tryz.func90,Tryz.ntmps90
 go_wp2
 have hY : Below w.heap.size w w.drew := (Below.refl _ _).drew
 go_region_held (fun w' => w'.cell? ⟨g,0,none⟩ = some (.string s) ∧ w'.cell? ⟨g,1,none⟩ = some (.int .i64 k)) (first | exact ⟨c0,c1⟩ | exact ⟨cell_later hY c0,cell_later hY c1⟩ | go_keep) (first
  | (go_at_call 105; refine Calls.mono (HC.out _) ?_; rintro e y ⟨rfl,hby⟩; replace hY := Below.on hY hby))
 all_goals
  go_wp2
  go_ret
  exact ⟨rfl,hY⟩
theorem cell_new (w : World) (arr : Array Value) (e : TypeId) (mk : Nat × Nat) (j : Nat) : (w.alloc (.cells arr e mk)).cell? ⟨w.heap.size,j,none⟩ = arr[j]? := by
 have : (w.alloc (.cells arr e mk)).heap[w.heap.size]? = some (.cells arr e mk) := heap_alloc_new w _
 unfold World.cell?
 rw [this]
 rfl
theorem words_any (w : World) : Calls Tryz.prog 86 #[] w fun e w' => ∃ b,e = .returned (.slice (some ⟨b,0,none⟩) 37 37) ∧ (∀ i,i < 37 → w'.cell? ⟨b,i,none⟩ = some (.string (wl.getD i ⟨#[]⟩))) ∧ Below w.heap.size w w' := by
 go_enter Tryz.func86,Tryz.ntmps86
 go_wp2
 go_ret
 refine ⟨w.heap.size,rfl,fun i hi => ?_,(Below.refl _ _).alloc (Nat.le_refl _) _⟩
 refine (cell_new w (wl.map Value.string).toArray 9 (0,0) i).trans ?_
 have hl : i < wl.length := hi
 rw [List.getElem?_toArray,List.getElem?_map,List.getElem?_eq_getElem hl,List.getD,List.getElem?_eq_getElem hl]
 rfl
theorem any_take {l : List ByteArray} {k : Nat} {s d : ByteArray} (hk : k < l.length) (h : (l.take k).any (fun t => decide (t = s)) = false) (hx : decide (l.getD k d = s) = false) : (l.take (k + 1)).any (fun t => decide (t = s)) = false := by
 rw [List.take_add_one,List.any_append,h,List.getElem?_eq_getElem hk]
 rw [List.getD,List.getElem?_eq_getElem hk] at hx
 simpa using hx
theorem any_hit {l : List ByteArray} {k : Nat} {s d : ByteArray} (hk : k < l.length) (hx : decide (l.getD k d = s) = true) : (l.any fun t => decide (t = s)) = true := by
 rw [List.getD,List.getElem?_eq_getElem hk] at hx
 exact List.any_eq_true.2 ⟨_,List.getElem_mem hk,hx⟩
set_option maxRecDepth 100000 in
theorem word_any (s : ByteArray) (w : World) : Calls Tryz.prog 56 #[.string s] w fun e w' => e = .returned (.bool (isW s)) ∧ Below w.heap.size w w' := by
 have H : Hid _ := words_any w
 go_enter Tryz.func56,Tryz.ntmps56
 go_wp2_with fail
 refine Calls.mono H.out ?_
 rintro e w1 ⟨b,rfl,hc,hb⟩
 have HC : Hid _ := hc
 clear H hc
 go_wp2
 go_loopw [4] (fun i wr => ∃ k : Nat,k ≤ 37 ∧ i = .int .i64 k ∧ Hid ((wl.take k).any (fun t => decide (t = s)) = false) ∧ wr = w1) (fun i _ => 37 - (intOf i).toNat)
 case atStart => exact ⟨0,by omega,rfl,rfl,rfl⟩
 case round =>
  obtain ⟨k,hk,rfl,HD,rfl⟩ := hrel
  by_cases hlt : k < 37
  ·have c0 := HC.out k hlt
   have hl : k < wl.length := hlt
   have hrun := run_eqS (wl.getD k ⟨#[]⟩) s
   have hs := same_str (wl.getD k ⟨#[]⟩) s
   cases hx : decide (wl.getD k ⟨#[]⟩ = s) with
   | true =>
    have HN : Hid (isW s = true) := any_hit hl hx
    rw [hx] at hs
    clear HD hx hl hrun
    generalize wl.getD k ⟨#[]⟩ = t at *
    go_wp2
    go_ret
    exact ⟨ret_bool HN.out.symm,hb⟩
   | false =>
    have HN : Hid _ := any_take hl HD.out hx
    rw [hx] at hs
    clear HD hx hl hrun
    generalize wl.getD k ⟨#[]⟩ = t at *
    go_wp2
    go_roundw
    case rel => exact ⟨k + 1,by omega,by go_num,HN,trivial⟩
    case measure => simp only [intOf]; omega
  ·have HN : Hid (isW s = false) := by
    have := HD.out
    rwa [List.take_of_length_le (by show 37 ≤ k; omega)] at this
   obtain rfl : k = 37 := by omega
   clear HD
   go_wp2
   go_ret
   exact ⟨ret_bool HN.out.symm,hb⟩
def tkA (t : Tk) : Value := .agg #[.int .i64 t.1,.string t.2.1,.int .i64 t.2.2.1,.int .i64 t.2.2.2]
def wrA (r : Wr) : Value := .tuple #[tkA r.tk,.int .i64 r.pl,.int .i64 r.er]
structure Zr (w : World) (r : Nat) : Prop where
 row : w.heap[r]? = some (.cells #[.int .i64 0,.string ⟨#[]⟩,.int .i64 0,.int .i64 0] 44 (0,0))
theorem Zr.new (w : World) : Zr (w.alloc (.cells #[.int .i64 0,.string ⟨#[]⟩,.int .i64 0,.int .i64 0] 44)) w.heap.size := ⟨heap_alloc_new w _⟩
theorem Zr.lt {w : World} {r : Nat} (h : Zr w r) : r < w.heap.size := (Array.getElem?_eq_some_iff.1 h.row).1
theorem Zr.but {w w' : World} {r g : Nat} (h : Zr w r) (hb : But g w w') (hr : r ≠ g) : Zr w' r := ⟨by rw [hb.block r h.lt hr]; exact h.row⟩
theorem Zr.later {w w' : World} {r : Nat} (h : Zr w r) (hb : Below w.heap.size w w') : Zr w' r := ⟨by rw [hb.block r h.lt]; exact h.row⟩
theorem Zr.cells {w : World} {r : Nat} (h : Zr w r) : w.cell? ⟨r,0,none⟩ = some (.int .i64 0) ∧ w.cell? ⟨r,1,none⟩ = some (.string ⟨#[]⟩) ∧ w.cell? ⟨r,2,none⟩ = some (.int .i64 0) ∧ w.cell? ⟨r,3,none⟩ = some (.int .i64 0) := by
 unfold World.cell?; rw [h.row]; exact ⟨rfl,rfl,rfl,rfl⟩
theorem Zr.free {w : World} {r : Nat} (h : Zr w r) : w.frozen? ⟨r,0,none⟩ = false ∧ w.frozen? ⟨r,1,none⟩ = false ∧ w.frozen? ⟨r,2,none⟩ = false ∧ w.frozen? ⟨r,3,none⟩ = false := by
 unfold World.frozen?; rw [h.row]; exact ⟨rfl,rfl,rfl,rfl⟩
theorem But.new {g : Nat} {w w' : World} (h : But g w w') {r : Nat} (hr : w.heap.size ≤ r) (o : Nat) (v : Value) : But g w (w'.setCell ⟨r,o,none⟩ v) :=
 ⟨h.os,h.tape,h.output,by simp [World.setCell]; exact h.size,fun k hk hg => (Below.heap_setCell _ _ _ _ (by show k ≠ r; omega)).trans (h.block k hk hg)⟩
theorem But.new4 {g : Nat} {w w' : World} (h : But g w w') {r : Nat} (hr : w.heap.size ≤ r) (a b c d : Value) : But g w ((((w'.setCell ⟨r,0,none⟩ a).setCell ⟨r,1,none⟩ b).setCell ⟨r,2,none⟩ c).setCell ⟨r,3,none⟩ d) :=
 (((h.new hr 0 a).new hr 1 b).new hr 2 c).new hr 3 d
theorem But.alloc {g : Nat} {w w' : World} (h : But g w w') (o : Obj) : But g w (w'.alloc o) :=
 h.trans (But.of ((Below.refl _ _).alloc (Nat.le_refl _) o))
theorem But.behind {g : Nat} {w w' : World} {o : Obj} (h : But g (w.alloc o) w') : But g w w' := ((But.refl g w).alloc o).trans h
theorem Rr.other {w : World} {g r : Nat} {s : ByteArray} {k : Nat} (h : Rr w g s k) (hr : g ≠ r) (o : Nat) (v : Value) : Rr (w.setCell ⟨r,o,none⟩ v) g s k :=
 ⟨by rw [Below.heap_setCell _ _ _ _ hr]; exact h.row⟩
theorem Rr.other4 {w : World} {g r : Nat} {s : ByteArray} {k : Nat} (h : Rr w g s k) (hr : g ≠ r) (a b c d : Value) : Rr ((((w.setCell ⟨r,0,none⟩ a).setCell ⟨r,1,none⟩ b).setCell ⟨r,2,none⟩ c).setCell ⟨r,3,none⟩ d) g s k :=
 (((h.other hr 0 a).other hr 1 b).other hr 2 c).other hr 3 d
theorem Rr.alloc {w : World} {g : Nat} {s : ByteArray} {k : Nat} (h : Rr w g s k) (o : Obj) : Rr (w.alloc o) g s k := h.later ((Below.refl _ _).alloc (Nat.le_refl _) o)
set_option maxRecDepth 100000 in
set_option maxHeartbeats 1000000 in
theorem name_any {g : Nat} {s : ByteArray} {j : Nat} {w : World} (h : Rr w g s j) (hs : s.size ≤ 400) (hj : j ≤ s.size) :
  Calls Tryz.prog 66 #[.pointer (some ⟨g,0,none⟩)] w fun e w' => e = .returned (wrA (nameW s j)) ∧ But g w w' ∧ ((nameW s j).er = 0 → Rr w' g s (nameW s j).nx) := by
 have hge := till_ge isN s j
 have hle := till_le (p := isN) hj
 have hgl := h.lt
 have h0 := h.alloc (.cells #[.int .i64 0,.string ⟨#[]⟩,.int .i64 0,.int .i64 0] 44)
 have c0 := h0.c1
 have HK : Hid _ := skip_any h0 (by omega) hj (such_name g _)
 have HS : Hid (∀ w',Rr w' g s (till isN s j) → _) := fun w' hr => since_any hr (by omega) hge hle
 have HW : Hid (∀ w',_) := fun w' => noName_any (s.extract j (till isN s j)) w'
 have z0 := Zr.new w
 unfold nameW
 generalize till isN s j = m at *
 clear h
 by_cases h16 : 16 < m - j
 ·rw [if_pos h16]
  have g1 : decide ((16 : Int) < (m : Int) - (j : Int)) = true := by simp; omega
  clear HS HW
  go_enter Tryz.func66,Tryz.ntmps66
  go_wp2_with fail
  refine Calls.mono HK.out ?_
  rintro e w1 ⟨rfl,hr1,hb1⟩
  have z1 := z0.but hb1 (by omega)
  have hb := hb1.behind
  clear HK c0 hb1
  have k1 := hr1.c1
  obtain ⟨c0,c1,c2,c3⟩ := z1.cells
  obtain ⟨f0,f1,f2,f3⟩ := z1.free
  go_wp2
  refine bodyPost_ret (v := wrA (flt j 7)) (by simp [results,Tryz.results66,go_sem,c0,c1,c2,c3,wrA,tkA,flt]) rfl ⟨rfl,hb.new4 (Nat.le_refl _) _ _ _ _,fun k => by simp [flt] at k⟩
 ·rw [if_neg h16]
  have g1 : decide ((16 : Int) < (m : Int) - (j : Int)) = false := by simp; omega
  go_enter Tryz.func66,Tryz.ntmps66
  go_wp2_with fail
  refine Calls.mono HK.out ?_
  rintro e w1 ⟨rfl,hr1,hb1⟩
  have z1 := z0.but hb1 (by omega)
  have hb := hb1.behind
  clear HK c0 hb1
  have k1 := hr1.c1
  go_wp2_with fail
  refine Calls.mono (HS.out w1 hr1) ?_
  rintro e w2 ⟨rfl,hb2⟩
  have hr2 := hr1.later hb2
  have z2 := z1.later hb2
  replace hb := hb.trans (But.of hb2)
  clear HS k1 hb2
  go_wp2_with fail
  refine Calls.mono (HW.out w2) ?_
  rintro e w3 ⟨rfl,rfl⟩
  clear HW
  obtain ⟨c0,c1,c2,c3⟩ := z2.cells
  obtain ⟨f0,f1,f2,f3⟩ := z2.free
  cases hw : isW (s.extract j m) with
  | true =>
   go_wp2
   all_goals refine bodyPost_ret (v := wrA (wrd (2,s.extract j m,0,j) m)) (by simp [results,Tryz.results66,go_sem,c0,c1,c2,c3,wrA,tkA,wrd]) rfl ⟨rfl,hb.new4 (Nat.le_refl _) _ _ _ _,fun k => hr2.other4 (by omega) _ _ _ _⟩
  | false =>
   go_wp2
   all_goals refine bodyPost_ret (v := wrA (wrd (1,s.extract j m,0,j) m)) (by simp [results,Tryz.results66,go_sem,c0,c1,c2,c3,wrA,tkA,wrd]) rfl ⟨rfl,hb.new4 (Nat.le_refl _) _ _ _ _,fun k => hr2.other4 (by omega) _ _ _ _⟩
set_option maxRecDepth 100000 in
set_option maxHeartbeats 1000000 in
theorem sign_any {g : Nat} {s : ByteArray} {j : Nat} {w : World} (h : Rr w g s j) (hs : s.size ≤ 400) (hj : j ≤ s.size) :
  Calls Tryz.prog 70 #[.pointer (some ⟨g,0,none⟩)] w fun e w' => e = .returned (wrA (sgnW s j)) ∧ But g w w' ∧ ((sgnW s j).er = 0 → Rr w' g s (sgnW s j).nx) := by
 have hgl := h.lt
 have h0 := h.alloc (.cells #[.int .i64 0,.string ⟨#[]⟩,.int .i64 0,.int .i64 0] 44)
 have c0 := h0.c1
 have z0 := Zr.new w
 have HI : Hid (∀ n w',_) := fun n w' => is_any n w'
 have HO : Hid (∀ w',_) := fun w' => ofTwo_any 61 62 w'
 have HT : Hid (∀ (k : Nat) (p : UInt8 → Bool) (v : Value) (w' : World),Rr w' g s k → k ≤ s.size → Such g p w' v → _) := fun k p v w' hr hk hv => take_any hr (by omega) hk hv
 have HS : Hid (∀ (k : Nat) (w' : World),Rr w' g s k → j ≤ k → k ≤ s.size → _) := fun k w' hr hjk hk => since_any hr (by omega) hjk hk
 unfold sgnW
 have hsl := sgn_le (s := s) (j := j)
 generalize hn : sgn s j = n at *
 rw [sgn] at hn
 clear h
 cases g1 : got (isB 60) s j with
 | true =>
  rw [g1,if_pos rfl] at hn
  have hlt := got_lt g1
  have hn0 : n ≠ 0 := by rw [← hn]; split <;> omega
  rw [if_neg hn0]
  have hm : (if got (is2 61 62) s (j + 1) then j + 1 + 1 else j + 1) = j + n := by rw [← hn]; split <;> rfl
  replace hm : Hid _ := hm
  replace hn : Hid _ := hn
  go_enter Tryz.func70,Tryz.ntmps70
  go_wp2_with fail
  refine Calls.mono (HI.out 60 _) ?_
  rintro e w1 ⟨v1,rfl,hv,hb1⟩
  have hr1 := h0.later hb1
  have z1 := z0.later hb1
  have hb : But g w w1 := (But.of hb1).behind
  replace hv := hv g (by simp; omega)
  clear c0 hb1
  go_wp2_with fail
  refine Calls.mono (HT.out j _ v1 w1 hr1 hj hv) ?_
  rw [g1,if_pos rfl]
  rintro e w2 ⟨rfl,hr2,hb2⟩
  have z2 := z1.but hb2 (by omega)
  replace hb := hb.trans hb2
  clear hb2 hr1 z1 hv
  go_wp2_with fail
  refine Calls.mono (HO.out _) ?_
  rintro e w3 ⟨v3,rfl,hv,hb3⟩
  have hr3 := hr2.later hb3
  have z3 := z2.later hb3
  replace hb := hb.trans (But.of hb3)
  replace hv := hv g hr2.lt
  clear hb3 hr2 z2
  go_wp2_with fail
  refine Calls.mono (HT.out (j + 1) _ v3 w3 hr3 hlt hv) ?_
  rw [hm.out]
  rintro e w4 ⟨rfl,hr4,hb4⟩
  have z4 := z3.but hb4 (by omega)
  replace hb := hb.trans hb4
  clear hb4 hr3 z3 hv
  clear hn hm HO HI HT
  go_wp2_with fail
  refine Calls.mono (HS.out (j + n) w4 hr4 (by omega) (by omega)) ?_
  rintro e w5 ⟨rfl,hb5⟩
  have hr5 := hr4.later hb5
  have z5 := z4.later hb5
  replace hb := hb.trans (But.of hb5)
  obtain ⟨c0,c1,c2,c3⟩ := z5.cells
  obtain ⟨f0,f1,f2,f3⟩ := z5.free
  clear hb5 hr4 z4 HS
  go_wp2
  all_goals refine bodyPost_ret (v := wrA (wrd (5,s.extract j (j + n),0,j) (j + n))) (by simp [results,Tryz.results70,go_sem,c0,c1,c2,c3,wrA,tkA,wrd]) rfl ⟨rfl,hb.new4 (Nat.le_refl _) _ _ _ _,fun k => hr5.other4 (by omega) _ _ _ _⟩
 | false =>
 rw [g1,if_neg (by simp)] at hn
 cases g2 : got (isB 62) s j with
 | true =>
  rw [g2,if_pos rfl] at hn
  have hlt := got_lt g2
  have hn0 : n ≠ 0 := by rw [← hn]; split <;> omega
  rw [if_neg hn0]
  have hm : (if got (isB 61) s (j + 1) then j + 1 + 1 else j + 1) = j + n := by rw [← hn]; split <;> rfl
  replace hm : Hid _ := hm
  replace hn : Hid _ := hn
  go_enter Tryz.func70,Tryz.ntmps70
  go_wp2_with fail
  refine Calls.mono (HI.out 60 _) ?_
  rintro e w1 ⟨v1,rfl,hv,hb1⟩
  have hr1 := h0.later hb1
  have z1 := z0.later hb1
  have hb : But g w w1 := (But.of hb1).behind
  replace hv := hv g (by simp; omega)
  clear c0 hb1
  go_wp2_with fail
  refine Calls.mono (HT.out j _ v1 w1 hr1 hj hv) ?_
  rw [g1,if_neg (by simp)]
  rintro e w2 ⟨rfl,hr2,hb2⟩
  have z2 := z1.but hb2 (by omega)
  replace hb := hb.trans hb2
  clear hb2 hr1 z1 hv
  go_wp2_with fail
  refine Calls.mono (HI.out 62 _) ?_
  rintro e w3 ⟨v3,rfl,hv,hb3⟩
  have hr3 := hr2.later hb3
  have z3 := z2.later hb3
  replace hb := hb.trans (But.of hb3)
  replace hv := hv g hr2.lt
  clear hb3 hr2 z2
  go_wp2_with fail
  refine Calls.mono (HT.out j _ v3 w3 hr3 hj hv) ?_
  rw [g2,if_pos rfl]
  rintro e w4 ⟨rfl,hr4,hb4⟩
  have z4 := z3.but hb4 (by omega)
  replace hb := hb.trans hb4
  clear hb4 hr3 z3 hv
  go_wp2_with fail
  refine Calls.mono (HI.out 61 _) ?_
  rintro e w5 ⟨v5,rfl,hv,hb5⟩
  have hr5 := hr4.later hb5
  have z5 := z4.later hb5
  replace hb := hb.trans (But.of hb5)
  replace hv := hv g hr4.lt
  clear hb5 hr4 z4
  go_wp2_with fail
  refine Calls.mono (HT.out (j + 1) _ v5 w5 hr5 hlt hv) ?_
  rw [hm.out]
  rintro e w6 ⟨rfl,hr6,hb6⟩
  have z6 := z5.but hb6 (by omega)
  replace hb := hb.trans hb6
  clear hb6 hr5 z5 hv
  clear hn hm HO HI HT
  go_wp2_with fail
  refine Calls.mono (HS.out (j + n) w6 hr6 (by omega) (by omega)) ?_
  rintro e w7 ⟨rfl,hb7⟩
  have hr7 := hr6.later hb7
  have z7 := z6.later hb7
  replace hb := hb.trans (But.of hb7)
  obtain ⟨c0,c1,c2,c3⟩ := z7.cells
  obtain ⟨f0,f1,f2,f3⟩ := z7.free
  clear hb7 hr6 z6 HS
  go_wp2
  all_goals refine bodyPost_ret (v := wrA (wrd (5,s.extract j (j + n),0,j) (j + n))) (by simp [results,Tryz.results70,go_sem,c0,c1,c2,c3,wrA,tkA,wrd]) rfl ⟨rfl,hb.new4 (Nat.le_refl _) _ _ _ _,fun k => hr7.other4 (by omega) _ _ _ _⟩
 | false =>
 rw [g2,if_neg (by simp)] at hn
 cases g3 : got isO s j with
 | true =>
  rw [g3,if_pos rfl] at hn
  have hlt := got_lt g3
  subst hn
  rw [if_neg (by omega)]
  go_enter Tryz.func70,Tryz.ntmps70
  go_wp2_with fail
  refine Calls.mono (HI.out 60 _) ?_
  rintro e w1 ⟨v1,rfl,hv,hb1⟩
  have hr1 := h0.later hb1
  have z1 := z0.later hb1
  have hb : But g w w1 := (But.of hb1).behind
  replace hv := hv g (by simp; omega)
  clear c0 hb1
  go_wp2_with fail
  refine Calls.mono (HT.out j _ v1 w1 hr1 hj hv) ?_
  rw [g1,if_neg (by simp)]
  rintro e w2 ⟨rfl,hr2,hb2⟩
  have z2 := z1.but hb2 (by omega)
  replace hb := hb.trans hb2
  clear hb2 hr1 z1 hv
  go_wp2_with fail
  refine Calls.mono (HI.out 62 _) ?_
  rintro e w3 ⟨v3,rfl,hv,hb3⟩
  have hr3 := hr2.later hb3
  have z3 := z2.later hb3
  replace hb := hb.trans (But.of hb3)
  replace hv := hv g hr2.lt
  clear hb3 hr2 z2
  go_wp2_with fail
  refine Calls.mono (HT.out j _ v3 w3 hr3 hj hv) ?_
  rw [g2,if_neg (by simp)]
  rintro e w4 ⟨rfl,hr4,hb4⟩
  have z4 := z3.but hb4 (by omega)
  replace hb := hb.trans hb4
  clear hb4 hr3 z3 hv
  go_wp2_with fail
  refine Calls.mono (HT.out j _ _ w4 hr4 hj (such_lone g _)) ?_
  rw [g3,if_pos rfl]
  rintro e w5 ⟨rfl,hr5,hb5⟩
  have z5 := z4.but hb5 (by omega)
  replace hb := hb.trans hb5
  clear hb5 hr4 z4
  clear HO HI HT
  go_wp2_with fail
  refine Calls.mono (HS.out (j + 1) w5 hr5 (by omega) (by omega)) ?_
  rintro e w6 ⟨rfl,hb6⟩
  have hr6 := hr5.later hb6
  have z6 := z5.later hb6
  replace hb := hb.trans (But.of hb6)
  obtain ⟨c0,c1,c2,c3⟩ := z6.cells
  obtain ⟨f0,f1,f2,f3⟩ := z6.free
  clear hb6 hr5 z5 HS
  go_wp2
  all_goals refine bodyPost_ret (v := wrA (wrd (5,s.extract j (j + 1),0,j) (j + 1))) (by simp [results,Tryz.results70,go_sem,c0,c1,c2,c3,wrA,tkA,wrd]) rfl ⟨rfl,hb.new4 (Nat.le_refl _) _ _ _ _,fun k => hr6.other4 (by omega) _ _ _ _⟩
 | false =>
  rw [g3,if_neg (by simp)] at hn
  subst hn
  rw [if_pos rfl]
  go_enter Tryz.func70,Tryz.ntmps70
  go_wp2_with fail
  refine Calls.mono (HI.out 60 _) ?_
  rintro e w1 ⟨v1,rfl,hv,hb1⟩
  have hr1 := h0.later hb1
  have z1 := z0.later hb1
  have hb : But g w w1 := (But.of hb1).behind
  replace hv := hv g (by simp; omega)
  clear c0 hb1
  go_wp2_with fail
  refine Calls.mono (HT.out j _ v1 w1 hr1 hj hv) ?_
  rw [g1,if_neg (by simp)]
  rintro e w2 ⟨rfl,hr2,hb2⟩
  have z2 := z1.but hb2 (by omega)
  replace hb := hb.trans hb2
  clear hb2 hr1 z1 hv
  go_wp2_with fail
  refine Calls.mono (HI.out 62 _) ?_
  rintro e w3 ⟨v3,rfl,hv,hb3⟩
  have hr3 := hr2.later hb3
  have z3 := z2.later hb3
  replace hb := hb.trans (But.of hb3)
  replace hv := hv g hr2.lt
  clear hb3 hr2 z2
  go_wp2_with fail
  refine Calls.mono (HT.out j _ v3 w3 hr3 hj hv) ?_
  rw [g2,if_neg (by simp)]
  rintro e w4 ⟨rfl,hr4,hb4⟩
  have z4 := z3.but hb4 (by omega)
  replace hb := hb.trans hb4
  clear hb4 hr3 z3 hv
  go_wp2_with fail
  refine Calls.mono (HT.out j _ _ w4 hr4 hj (such_lone g _)) ?_
  rw [g3,if_neg (by simp)]
  rintro e w5 ⟨rfl,hr5,hb5⟩
  have z5 := z4.but hb5 (by omega)
  replace hb := hb.trans hb5
  clear hb5 hr4 z4
  clear HO HI HT HS
  obtain ⟨c0,c1,c2,c3⟩ := z5.cells
  obtain ⟨f0,f1,f2,f3⟩ := z5.free
  go_wp2
  all_goals refine bodyPost_ret (v := wrA (flt j 4)) (by simp [results,Tryz.results70,go_sem,c0,c1,c2,c3,wrA,tkA,flt]) rfl ⟨rfl,hb.new4 (Nat.le_refl _) _ _ _ _,fun k => by simp [flt] at k⟩
end Go.Proofs.YtfopfhlohihihaaGreat
