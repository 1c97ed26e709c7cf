import Derived.Test.YtfopfhlohihihaaGreatSac
namespace Go.Proofs.YtfopfhlohihihaaGreat
open Go.RowKit
set_option linter.unusedVariables false
set_option linter.unusedSimpArgs false
theorem bs_extract (s : ByteArray) (a b : Nat) : bs (s.extract a b) = ((bs s).drop a).take (b - a) := by
 rw [bs,bs,ByteArray.data_extract,Array.toList_extract,List.extract_eq_take_drop]
theorem bs_till (p : UInt8 → Bool) (s : ByteArray) (j : Nat) : bs (s.extract j (till p s j)) = ((bs s).drop j).takeWhile p := by
 rw [bs_extract,till,Nat.add_sub_cancel_left]
 exact (List.prefix_iff_eq_take.1 (List.takeWhile_prefix p)).symm
theorem all_till (p : UInt8 → Bool) (s : ByteArray) (j : Nat) : (bs (s.extract j (till p s j))).all p = true := by
 rw [bs_till]
 exact List.all_takeWhile
theorem pA_till {s : ByteArray} {j : Nat} (h : got isDig s j = true) : pA (bs (s.extract j (till isDig s j))) = nA (numV s j (till isDig s j)) := by
 have h1 := all_till isDig s j
 have h2 := till_lt h
 have h3 := till_le (p := isDig) (Nat.le_of_lt (got_lt h))
 have hl : 0 < (bs (s.extract j (till isDig s j))).length := by rw [bs_length,ByteArray.size_extract]; omega
 rw [pA,isNum,h1,Bool.and_true,decide_eq_true hl,if_pos rfl,numV]
set_option maxRecDepth 100000 in
set_option maxHeartbeats 1000000 in
theorem number_any {g : Nat} {s : ByteArray} {j : Nat} {w : World} (h : Rr w g s j) (hs : s.size ≤ 400) (hj : j ≤ s.size) (hd : got isDig s j = true) :
  Calls Tryz.prog 68 #[.pointer (some ⟨g,0,none⟩)] w fun e w' => e = .returned (wrA (numW s j)) ∧ But g w w' ∧ ((numW s j).er = 0 → Rr w' g s (numW s j).nx) := by
 have hge := till_ge isDig s j
 have hle := till_le (p := isDig) hj
 have hgl := h.lt
 have h0 := h.alloc (.cells #[.int .i64 0,.string ⟨#[]⟩,.int .i64 0,.int .i64 0] 44)
 have c0 := h0.c1
 have HK : Hid _ := skip_any h0 (by omega) hj (such_digit g _)
 have HX : Hid (∀ w',Rr w' g s (till isDig s j) → _) := fun w' hr => next_any hr (by omega) hle (such_letter g w')
 have HP : Hid (∀ w',_) := fun w' => Parse_any (s.extract j (till isDig s j)) (by have := extract_size s j (till isDig s j); omega) w'
 rw [pA_till hd] at HP
 have z0 := Zr.new w
 have HA : Hid (got isL s (till isDig s j) = true → numW s j = flt (till isDig s j) 4) := fun k => by rw [numW,if_pos k]
 have HB : Hid (got isL s (till isDig s j) = false → Fits (numV s j (till isDig s j)) → numW s j = wrd (3,⟨#[]⟩,numV s j (till isDig s j),j) (till isDig s j)) := fun k f => by rw [numW,if_neg (by rw [k]; simp),if_pos f]
 have HC : Hid (got isL s (till isDig s j) = false → ¬ Fits (numV s j (till isDig s j)) → numW s j = flt j 8) := fun k f => by rw [numW,if_neg (by rw [k]; simp),if_neg f]
 generalize numW s j = RR at *
 generalize till isDig s j = m at *
 generalize numV s j m = V at *
 clear h hd
 go_enter Tryz.func68,Tryz.ntmps68
 go_wp2_with fail
 refine Calls.mono HK.out ?_
 rintro e w1 ⟨rfl,hr1,hb1⟩
 have z1 := z0.but hb1 (by omega)
 have hb := hb1.behind
 clear HK c0 hb1
 go_wp2_with fail
 refine Calls.mono (HX.out w1 hr1) ?_
 rintro e w2 ⟨rfl,hb2⟩
 have hr2 := hr1.later hb2
 have z2 := z1.later hb2
 replace hb := hb.trans (But.of hb2)
 obtain ⟨c0,c1,c2,c3⟩ := z2.cells
 obtain ⟨f0,f1,f2,f3⟩ := z2.free
 have k0 := hr2.c0
 have k1 := hr2.c1
 have hne : ¬ w.heap.size = g := by omega
 have hne' : ¬ g = w.heap.size := by omega
 clear HX hb2 hr1 z1
 cases hg : got isL s m with
 | true =>
  have hR := HA.out hg
  subst hR
  clear HP HA HB HC
  go_wp2
  go_region
  all_goals go_wp2
  all_goals refine bodyPost_ret (v := wrA (flt m 4)) (by simp [results,Tryz.results68,go_sem,c0,c1,c2,c3,wrA,tkA,flt]) rfl ⟨rfl,?_,fun k => by simp [flt] at k⟩
  all_goals exact (hb.new4 (Nat.le_refl _) _ _ _ _).rdrew 1
 | false =>
  replace HB : Hid _ := HB.out hg
  replace HC : Hid _ := HC.out hg
  clear HA
  by_cases hf : Fits (V : Int)
  ·have hR := HB.out hf
   subst hR
   rw [nA_in hf] at HP
   clear HB HC
   go_wp2
   go_quiet ((go_at_call 92; exact Calls.quiet_of_same (HP.out _)))
   clear HP
   go_wp2
   refine bodyPost_ret (v := wrA (wrd (3,⟨#[]⟩,V,j) m)) (by simp [results,Tryz.results68,go_sem,c0,c1,c2,c3,wrA,tkA,wrd]) rfl ⟨rfl,?_,fun k => ?_⟩
   ·exact (hb.new4 (Nat.le_refl _) _ _ _ _).rdrew nq
   ·exact (hr2.other4 (by omega) _ _ _ _).drewN nq
  ·have hR := HC.out hf
   subst hR
   rw [nA_out hf] at HP
   clear HB HC
   go_wp2
   go_quiet ((go_at_call 92; exact Calls.quiet_of_same (HP.out _)))
   clear HP
   go_wp2
   refine bodyPost_ret (v := wrA (flt j 8)) (by simp [results,Tryz.results68,go_sem,c0,c1,c2,c3,wrA,tkA,flt]) rfl ⟨rfl,?_,fun k => by simp [flt] at k⟩
   ·exact (hb.new4 (Nat.le_refl _) _ _ _ _).rdrew nq
theorem closed_any {g : Nat} {s : ByteArray} {k : Nat} {w : World} (h : Rr w g s k) (hs : s.size ≤ 400) (hk : k ≤ s.size) :
  Calls Tryz.prog 93 #[.pointer (some ⟨g,0,none⟩)] w fun e w' => e = .returned (.bool (got (isB 39) s k && !got (isB 39) s (k + 1))) ∧ Rr w' g s (if got (isB 39) s k then k + 1 else k) ∧ But g w w' := by
 have hgl := h.lt
 have HI : Hid (∀ n w',_) := fun n w' => is_any n w'
 have HT : Hid (∀ (p : UInt8 → Bool) (v : Value) (w' : World),Rr w' g s k → Such g p w' v → _) := fun p v w' hr hv => take_any hr (by omega) hk hv
 cases hg : got (isB 39) s k with
 | true =>
  have hlt := got_lt hg
  have HX : Hid (∀ (p : UInt8 → Bool) (v : Value) (w' : World),Rr w' g s (k + 1) → Such g p w' v → _) := fun p v w' hr hv => next_any hr (by omega) hlt hv
  rw [Bool.true_and,if_pos rfl]
  go_enter Tryz.func93,Tryz.ntmps93
  go_wp2_with fail
  refine Calls.mono (HI.out 39 _) ?_
  rintro e w1 ⟨v1,rfl,hv1,hb1⟩
  have hr1 := h.later hb1
  have hb : But g w w1 := But.of hb1
  replace hv1 := hv1 g hgl
  clear hb1
  go_wp2_with fail
  refine Calls.mono (HT.out _ v1 w1 hr1 hv1) ?_
  rw [hg,if_pos rfl]
  rintro e w2 ⟨rfl,hr2,hb2⟩
  replace hb := hb.trans hb2
  clear hb2 hr1 hv1
  go_wp2_with fail
  refine Calls.mono (HI.out 39 _) ?_
  rintro e w3 ⟨v3,rfl,hv3,hb3⟩
  have hr3 := hr2.later hb3
  replace hv3 := hv3 g hr2.lt
  replace hb := hb.trans (But.of hb3)
  clear hb3 hr2
  go_wp2_with fail
  refine Calls.mono (HX.out _ v3 w3 hr3 hv3) ?_
  rintro e w4 ⟨rfl,hb4⟩
  have hr4 := hr3.later hb4
  replace hb := hb.trans (But.of hb4)
  clear hb4 hr3 hv3 HI HT HX
  go_wp2
  go_ret
  exact ⟨rfl,hr4,hb⟩
 | false =>
  rw [Bool.false_and,if_neg (by simp)]
  go_enter Tryz.func93,Tryz.ntmps93
  go_wp2_with fail
  refine Calls.mono (HI.out 39 _) ?_
  rintro e w1 ⟨v1,rfl,hv1,hb1⟩
  have hr1 := h.later hb1
  have hb : But g w w1 := But.of hb1
  replace hv1 := hv1 g hgl
  clear hb1
  go_wp2_with fail
  refine Calls.mono (HT.out _ v1 w1 hr1 hv1) ?_
  rw [hg,if_neg (by simp)]
  rintro e w2 ⟨rfl,hr2,hb2⟩
  replace hb := hb.trans hb2
  clear hb2 hr1 hv1 HI HT
  go_wp2
  go_ret
  exact ⟨rfl,hr2,hb⟩
def lz (l : List UInt8) : List Int := l.map fun c => (c.toNat : Int)
theorem lz_len (l : List UInt8) : (lz l).length = l.length := List.length_map _
theorem lz_snoc (l : List UInt8) (c : UInt8) : lz (l ++ [c]) = lz l ++ [(c.toNat : Int)] := by simp [lz]
theorem lz_str (l : List UInt8) : strOfNums (lz l) = ⟨l.toArray⟩ := by
 have : ((lz l).map fun n => UInt8.ofNat n.toNat) = l := by
  rw [lz,List.map_map]
  conv => rhs; rw [← List.map_id l]
  apply List.map_congr_left
  intro x _
  simp
 rw [strOfNums,this]
theorem got39 {s : ByteArray} {k : Nat} (h : got (isB 39) s k = true) : ∃ hk : k < s.size,s[k].toNat = 39 := by
 have hk := got_lt h
 rw [got_at hk,isB,decide_eq_true_iff] at h
 exact ⟨hk,h⟩
theorem quo_nil : quo [] = ([],0,false) := by rw [quo]
theorem quo_cons (x : UInt8) (l : List UInt8) (h1 : isB 39 x = false) : quo (x :: l) = if isT x then (x :: (quo l).1,(quo l).2.1 + 1,(quo l).2.2) else ([],0,false) := by
 cases l with
 | nil =>
  simp only [quo,h1,Bool.false_eq_true,if_false]
 | cons y r => rw [quo,if_neg (by rw [h1]; simp)]
theorem quo_close {s : ByteArray} {k : Nat} (h : got (isB 39) s k = true) (h2 : got (isB 39) s (k + 1) = false) : quo ((bs s).drop k) = ([],1,true) := by
 have hk := got_lt h
 rw [got_at hk] at h
 rw [drop_at hk]
 cases Nat.lt_or_ge (k + 1) s.size with
 | inl hk2 =>
  rw [got_at hk2] at h2
  rw [drop_at hk2,quo,if_pos h,if_neg (by rw [h2]; simp)]
 | inr hk2 => rw [List.drop_of_length_le (by rw [bs_length]; exact hk2),quo,if_pos h]
theorem quo_two {s : ByteArray} {k : Nat} (h : got (isB 39) s k = true) (hk : k + 1 < s.size) (h2 : got (isB 39) s (k + 1) = true) : quo ((bs s).drop k) = (s[k + 1] :: (quo ((bs s).drop (k + 1 + 1))).1,(quo ((bs s).drop (k + 1 + 1))).2.1 + 2,(quo ((bs s).drop (k + 1 + 1))).2.2) := by
 obtain ⟨k1,e1⟩ := got39 h
 obtain ⟨k2,e2⟩ := got39 h2
 have e : s[k] = s[k + 1] := UInt8.toNat_inj.1 (e1.trans e2.symm)
 rw [got_at k1] at h
 rw [got_at k2] at h2
 rw [drop_at k1,drop_at k2,quo,if_pos h,if_pos h2,e]
theorem quo_txt {s : ByteArray} {k : Nat} (hk : k < s.size) (h : got (isB 39) s k = false) (h2 : got isT s k = true) : quo ((bs s).drop k) = (s[k] :: (quo ((bs s).drop (k + 1))).1,(quo ((bs s).drop (k + 1))).2.1 + 1,(quo ((bs s).drop (k + 1))).2.2) := by
 rw [got_at hk] at h h2
 rw [drop_at hk,quo_cons _ _ h,if_pos h2]
theorem quo_bad {s : ByteArray} {k : Nat} (h : got (isB 39) s k = false) (h2 : got isT s k = false) : quo ((bs s).drop k) = ([],0,false) := by
 cases Nat.lt_or_ge k s.size with
 | inl hk =>
  rw [got_at hk] at h h2
  rw [drop_at hk,quo_cons _ _ h,if_neg (by rw [h2]; simp)]
 | inr hk => rw [List.drop_of_length_le (by rw [bs_length]; exact hk),quo_nil]
def Qv (s : ByteArray) (j k : Nat) (l : List UInt8) : Prop := (quo ((bs s).drop (j + 1))).1 = l ++ (quo ((bs s).drop k)).1 ∧ (quo ((bs s).drop (j + 1))).2.1 + (j + 1) = k + (quo ((bs s).drop k)).2.1 ∧ (quo ((bs s).drop (j + 1))).2.2 = (quo ((bs s).drop k)).2.2
theorem Qv.start (s : ByteArray) (j : Nat) : Qv s j (j + 1) [] := ⟨rfl,by omega,rfl⟩
theorem Qv.txt {s : ByteArray} {j k : Nat} {l : List UInt8} (q : Qv s j k l) (hk : k < s.size) (h : got (isB 39) s k = false) (h2 : got isT s k = true) : Qv s j (k + 1) (l ++ [s[k]]) := by
 obtain ⟨q1,q2,q3⟩ := q
 rw [quo_txt hk h h2] at q1 q2 q3
 exact ⟨by rw [q1]; simp,by rw [q2]; simp; omega,q3⟩
theorem Qv.two {s : ByteArray} {j k : Nat} {l : List UInt8} (q : Qv s j k l) (hk : k + 1 < s.size) (h : got (isB 39) s k = true) (h2 : got (isB 39) s (k + 1) = true) : Qv s j (k + 1 + 1) (l ++ [s[k + 1]]) := by
 obtain ⟨q1,q2,q3⟩ := q
 rw [quo_two h hk h2] at q1 q2 q3
 exact ⟨by rw [q1]; simp,by rw [q2]; simp; omega,q3⟩
theorem Qv.two' {s : ByteArray} {j k m : Nat} {l : List UInt8} (q : Qv s j k l) (hm : m = k + 1) (hk : m < s.size) (h : got (isB 39) s k = true) (h2 : got (isB 39) s m = true) : Qv s j (m + 1) (l ++ [s[m]]) := by
 subst hm
 exact q.two hk h h2
theorem Qv.close {s : ByteArray} {j k : Nat} {l : List UInt8} (q : Qv s j k l) (h : got (isB 39) s k = true) (h2 : got (isB 39) s (k + 1) = false) : quoW s j = if 30 < l.length then flt j 7 else wrd (4,⟨l.toArray⟩,0,j) (k + 1) := by
 obtain ⟨q1,q2,q3⟩ := q
 rw [quo_close h h2] at q1 q2 q3
 rw [List.append_nil] at q1
 have e : j + 1 + (quo ((bs s).drop (j + 1))).2.1 = k + 1 := by have : ((([],1,true) : List UInt8 × Nat × Bool)).2.1 = 1 := rfl; omega
 rw [quoW,q3,if_pos rfl,q1,e]
theorem Qv.bad {s : ByteArray} {j k : Nat} {l : List UInt8} (q : Qv s j k l) (h : got (isB 39) s k = false) (h2 : got isT s k = false) : quoW s j = flt k 4 := by
 obtain ⟨q1,q2,q3⟩ := q
 rw [quo_bad h h2] at q1 q2 q3
 have e : j + 1 + (quo ((bs s).drop (j + 1))).2.1 = k := by have : ((([],0,false) : List UInt8 × Nat × Bool)).2.1 = 0 := rfl; omega
 rw [quoW,q3,if_neg (by simp),e]
theorem Own.but {B g : Nat} {w w' : World} {v : Value} {l : List Int} (h : Own B w v l) (hb : But g w w') (hg : g < B) : Own B w' v l := by
 refine ⟨h.1,?_⟩
 rcases h.2 with k | ⟨b,cap,cur,hv,hg',hh,r⟩
 ·exact .inl k
 ·exact .inr ⟨b,cap,cur,hv,hg',by rw [hb.block b (Array.getElem?_eq_some_iff.1 hh).1 (by omega)]; exact hh,r⟩
theorem But.upto {g B : Nat} {w w1 w2 : World} (h : But g w w1) (k : Below B w1 w2) (hB : w.heap.size ≤ B) : But g w w2 :=
 ⟨k.os.trans h.os,k.tape.trans h.tape,k.output.trans h.output,Nat.le_trans h.size k.size,fun i hi hg => (k.block i (by omega)).trans (h.block i hi hg)⟩
theorem Rr.below {B : Nat} {w w' : World} {g : Nat} {s : ByteArray} {k : Nat} (h : Rr w g s k) (hb : Below B w w') (hg : g < B) : Rr w' g s k := ⟨by rw [hb.block g hg]; exact h.row⟩
theorem Zr.below {B : Nat} {w w' : World} {r : Nat} (h : Zr w r) (hb : Below B w w') (hr : r < B) : Zr w' r := ⟨by rw [hb.block r hr]; exact h.row⟩
theorem step_appB {ops : Array Oper} {o : Oper} {a : Act} {w : World} {K : Act → World → Prop} {Q : Exit → Act → World → Prop} {E : Prop}
  (hgd : o.guard = none) (s x : Operand) (tx : TypeId) (ho : o.op = Op.call { callee := Callee.builtin Builtin.append,args := #[s,x],argTypes := #[22,tx] })
  (B : Nat) (v xv : Value) (l m : List Int) (hs : a.eval s = v) (hx : a.eval x = xv) (hown : Own B w v l) (hsrc : SrcB w tx xv m) (hlm : l.length + m.length ≤ 100000) (hB : B ≤ w.heap.size)
  (h : ∀ v' w',Own B w' v' (l ++ m) → Below B w w' → K (a.put o.dst v') w') :
  if Region.wanted o (yielded ops a.tmps) = true then Oper.wp Tryz.prog o a w K Q else E :=
 step_app hgd s x tx ho B v xv l m hs hx hown hsrc hlm hB fun v' w' h1 h2 _ => h v' w' h1 (hown.below hB h2)
theorem conv_all {w : World} {ao : Option Addr} {n c : Nat} {xs : List Int} (h : Rd .u8 w ao n c xs) : (convert 22 9 (.slice ao n c)).run Tryz.prog w = .ok (.string (strOfNums xs)) w := by
 by_cases hn : 0 < n
 ·obtain ⟨b,o,rfl,hc⟩ := h.cells hn
  exact run_convert_bytes_arg w 22 5 Tryz.underlying22 Tryz.underlying5 b o n c xs h.len (fun i hi => by rw [hc i hi]; rfl) 9 Tryz.underlying9
 ·obtain rfl : n = 0 := by omega
  obtain rfl : xs = [] := List.eq_nil_of_length_eq_zero h.len
  rcases ao with _ | a
  ·exact run_convert_bytes_nil w 22 5 Tryz.underlying22 Tryz.underlying5 0 c 9 Tryz.underlying9
  ·rw [run_convert_bytes_string w 22 9 5 _ 0 c Tryz.underlying22 Tryz.underlying5 Tryz.underlying9,run_bytesToString w a 0 c [] (by simp [loadCells,loadCellsFrom])]
   rfl
set_option maxRecDepth 100000 in
set_option maxHeartbeats 2000000 in
theorem quoted_any {g : Nat} {s : ByteArray} {j : Nat} {w : World} (h : Rr w g s j) (hs : s.size ≤ 400) (hj : j < s.size) :
  Calls Tryz.prog 69 #[.pointer (some ⟨g,0,none⟩)] w fun e w' => e = .returned (wrA (quoW s j)) ∧ But g w w' ∧ ((quoW s j).er = 0 → Rr w' g s (quoW s j).nx) := by
 have hgl := h.lt
 have k0 := h.c1
 have kf := h.f1
 have HC : Hid (∀ (k : Nat) (w' : World),Rr w' g s k → k ≤ s.size → _) := fun k w' hr hk => closed_any hr hs hk
 have HT : Hid (∀ (k : Nat) (w' : World),Rr w' g s k → k ≤ s.size → _) := fun k w' hr hk => take_any hr (by omega) hk (such_text g w')
 have H1 : Hid (∀ k l,Qv s j k l → got (isB 39) s k = true → got (isB 39) s (k + 1) = false → quoW s j = if 30 < l.length then flt j 7 else wrd (4,⟨l.toArray⟩,0,j) (k + 1)) := fun k l q a b => q.close a b
 have H2 : Hid (∀ k l,Qv s j k l → got (isB 39) s k = false → got isT s k = false → quoW s j = flt k 4) := fun k l q a b => q.bad a b
 generalize quoW s j = RR at *
 have hne : ¬ w.heap.size = g := by omega
 have hne' : ¬ g = w.heap.size := by omega
 go_enter Tryz.func69,Tryz.ntmps69
 go_wp2
 go_loopw [6] (fun tv wr => ∃ (k : Nat) (l : List UInt8),j + 1 ≤ k ∧ k ≤ s.size ∧ l.length ≤ k ∧ Rr wr g s k ∧ Qv s j k l ∧ Zr wr w.heap.size ∧ But g w wr ∧ Own (w.heap.size + 1) wr tv (lz l) ∧ w.heap.size + 1 ≤ wr.heap.size) (fun _ wr => s.size - rdAt g wr)
 case atStart =>
  have z := Zr.new (w.setCell ⟨g,1,none⟩ (.int .i64 ((j + 1 : Nat) : Int)))
  have hsz : (w.setCell ⟨g,1,none⟩ (.int .i64 ((j + 1 : Nat) : Int))).heap.size = w.heap.size := by simp [World.setCell]
  rw [hsz] at z
  exact ⟨j + 1,[],Nat.le_refl _,hj,Nat.zero_le _,(h.set (j + 1)).alloc _,Qv.start s j,z,(But.set _ _ _ _).alloc _,Own.nil _ _,by simp [World.setCell]⟩
 case round =>
  obtain ⟨k,l,hk1,hk,hl,hr,q,z,hb,ho,hz⟩ := hrel
  have hgB : g < w.heap.size + 1 := by omega
  have hm := hr.at
  have H := HC.out k wr hr hk
  clear k0 kf h
  cases g1 : got (isB 39) s k with
  | true =>
   rw [g1,Bool.true_and,if_pos rfl] at H
   have hlt := got_lt g1
   cases g2 : got (isB 39) s (k + 1) with
   | false =>
    rw [g2,Bool.not_false] at H
    have hR := H1.out k l q g1 g2
    replace H : Hid _ := H
    clear HC HT H1 H2 g1 g2 q
    by_cases h30 : 30 < l.length
    ·rw [if_pos h30] at hR
     subst hR
     have g3 : decide ((30 : Int) < (l.length : Int)) = true := by simp; omega
     go_wp2_with fail
     refine Calls.mono H.out ?_
     rintro e w1 ⟨rfl,hr1,hb1⟩
     have z1 := z.but hb1 (by omega)
     replace ho := ho.but hb1 (by omega)
     replace hb := hb.trans hb1
     obtain ⟨ao,c,hv,hrd⟩ := ho.rd
     rw [lz_len] at hv hrd
     subst hv
     obtain ⟨c0,c1,c2,c3⟩ := z1.cells
     obtain ⟨f0,f1,f2,f3⟩ := z1.free
     clear H hb1 hr z hm
     go_wp2
     all_goals refine bodyPost_ret (v := wrA (flt j 7)) (by simp [results,Tryz.results69,go_sem,c0,c1,c2,c3,wrA,tkA,flt]) rfl ⟨rfl,hb.new4 (Nat.le_refl _) _ _ _ _,fun k => by simp [flt] at k⟩
    ·rw [if_neg h30] at hR
     subst hR
     have g3 : decide ((30 : Int) < (l.length : Int)) = false := by simp; omega
     go_wp2_with fail
     refine Calls.mono H.out ?_
     rintro e w1 ⟨rfl,hr1,hb1⟩
     have z1 := z.but hb1 (by omega)
     replace ho := ho.but hb1 (by omega)
     replace hb := hb.trans hb1
     obtain ⟨ao,c,hv,hrd⟩ := ho.rd
     have hcv := conv_all hrd
     rw [lz_len] at hv hrd hcv
     rw [lz_str] at hcv
     subst hv
     obtain ⟨c0,c1,c2,c3⟩ := z1.cells
     obtain ⟨f0,f1,f2,f3⟩ := z1.free
     clear H hb1 hr z hm
     go_wp2
     all_goals refine bodyPost_ret (v := wrA (wrd (4,⟨l.toArray⟩,0,j) (k + 1))) (by simp [results,Tryz.results69,go_sem,c0,c1,c2,c3,wrA,tkA,wrd]) rfl ⟨rfl,hb.new4 (Nat.le_refl _) _ _ _ _,fun _ => hr1.other4 (by omega) _ _ _ _⟩
   | true =>
    rw [g2,Bool.not_true] at H
    obtain ⟨m,hmk⟩ : ∃ m,m = k + 1 := ⟨_,rfl⟩
    rw [← hmk] at H g2
    have hlt2 := got_lt g2
    have g3 : got isT s m = true := by
     obtain ⟨_,e⟩ := got39 g2
     rw [got_at hlt2,isT,e]; rfl
    have HQ := q.two' hmk hlt2 g1 g2
    replace hmk : Hid _ := hmk
    have hkm : k < m := by have := hmk.out; omega
    have hlm : l.length ≤ m := by omega
    replace H : Hid _ := H
    clear HC H1 H2 g1 g2 q
    go_wp2_with fail
    refine Calls.mono H.out ?_
    rintro e w1 ⟨rfl,hr1,hb1⟩
    have z1 := z.but hb1 (by omega)
    replace ho := ho.but hb1 (by omega)
    replace hb := hb.trans hb1
    replace hz := Nat.le_trans hz hb1.size
    clear H hb1 hr z
    have H := HT.out m w1 hr1 (by omega)
    rw [g3,if_pos rfl] at H
    replace H : Hid _ := H
    clear HT g3
    go_wp2_with fail
    refine Calls.mono H.out ?_
    rintro e w2 ⟨rfl,hr2,hb2⟩
    have z2 := z1.but hb2 (by omega)
    replace ho := ho.but hb2 (by omega)
    replace hb := hb.trans hb2
    replace hz := Nat.le_trans hz hb2.size
    clear H hb2 hr1 z1
    have k0 := hr2.c0
    have k1 := hr2.c1
    have hm2 := hr2.at
    have hD : Below w2.heap.size w2 w2.drew := (Below.refl _ _).drew
    have hDa : Below w2.heap.size w2 (w2.drew.alloc (.cells #[.int .u8 (s[m].toNat : Int)] 5)) := hD.alloc (Nat.le_refl _) _
    have hOd : Own (w.heap.size + 1) (w2.drew.alloc (.cells #[.int .u8 (s[m].toNat : Int)] 5)) u6 (lz l) := (ho.drew).alloc _
    have hl2 := lz_len l
    have hsb := SrcB.one w2.drew (s[m].toNat : Int)
    have hwr : IntKind.i64.wrap (m : Int) = m := by rw [IntKind.wrap_i64]; omega
    go_wp2
    go_region_held3 (fun w' => w'.cell? ⟨g,0,none⟩ = some (.string s) ∧ w'.cell? ⟨g,1,none⟩ = some (.int .i64 ((m + 1 : Nat) : Int))) (first | exact ⟨k0,k1⟩ | exact ⟨cell_later hDa k0,cell_later hDa k1⟩ | exact ⟨(hb4.cell (p := ⟨g,0,none⟩) hgB).trans (cell_later hDa k0),(hb4.cell (p := ⟨g,1,none⟩) hgB).trans (cell_later hDa k1)⟩ | go_keep)
     ((refine step_appB (by rfl) (.tmp 29) (.tmp 40) 22 (by rfl) (w.heap.size + 1) u6 _ (lz l) [(s[m].toNat : Int)] (by rfl) (by rfl) hOd hsb (by rw [hl2]; simp; omega) (by simp; omega) ?_; intro v4 w4 hO4 hb4))
    all_goals
     go_wp2
     go_roundw
    case rel =>
     have hr4 := (hr2.later hDa).below hb4 hgB
     have z4 := (z2.later hDa).below hb4 (Nat.lt_succ_self _)
     have hB4 := (hb.trans (But.of hDa)).upto hb4 (Nat.le_succ _)
     exact ⟨m + 1,l ++ [s[m]],by omega,by omega,by simp; omega,hr4,HQ,z4,hB4,by rw [lz_snoc]; exact hO4,Nat.le_trans (Nat.le_trans hz hDa.size) hb4.size⟩
    case measure =>
     have hr4 := ((hr2.later hDa).below hb4 hgB).at
     omega
  | false =>
   rw [g1,Bool.false_and,if_neg (by simp)] at H
   cases g3 : got isT s k with
   | true =>
    have hlt := got_lt g3
    have HQ := q.txt hlt g1 g3
    replace H : Hid _ := H
    clear HC H1 H2 g1 q
    go_wp2_with fail
    refine Calls.mono H.out ?_
    rintro e w1 ⟨rfl,hr1,hb1⟩
    have z1 := z.but hb1 (by omega)
    replace ho := ho.but hb1 (by omega)
    replace hb := hb.trans hb1
    replace hz := Nat.le_trans hz hb1.size
    clear H hb1 hr z
    have H := HT.out k w1 hr1 (by omega)
    rw [g3,if_pos rfl] at H
    replace H : Hid _ := H
    clear HT g3
    go_wp2_with fail
    refine Calls.mono H.out ?_
    rintro e w2 ⟨rfl,hr2,hb2⟩
    have z2 := z1.but hb2 (by omega)
    replace ho := ho.but hb2 (by omega)
    replace hb := hb.trans hb2
    replace hz := Nat.le_trans hz hb2.size
    clear H hb2 hr1 z1
    have k0 := hr2.c0
    have k1 := hr2.c1
    have hm2 := hr2.at
    have hD : Below w2.heap.size w2 w2.drew := (Below.refl _ _).drew
    have hDa : Below w2.heap.size w2 (w2.drew.alloc (.cells #[.int .u8 (s[k].toNat : Int)] 5)) := hD.alloc (Nat.le_refl _) _
    have hOd : Own (w.heap.size + 1) (w2.drew.alloc (.cells #[.int .u8 (s[k].toNat : Int)] 5)) u6 (lz l) := (ho.drew).alloc _
    have hl2 := lz_len l
    have hsb := SrcB.one w2.drew (s[k].toNat : Int)
    have hwr : IntKind.i64.wrap (k : Int) = k := by rw [IntKind.wrap_i64]; omega
    go_wp2
    go_region_held3 (fun w' => w'.cell? ⟨g,0,none⟩ = some (.string s) ∧ w'.cell? ⟨g,1,none⟩ = some (.int .i64 ((k + 1 : Nat) : Int))) (first | exact ⟨k0,k1⟩ | exact ⟨cell_later hDa k0,cell_later hDa k1⟩ | exact ⟨(hb4.cell (p := ⟨g,0,none⟩) hgB).trans (cell_later hDa k0),(hb4.cell (p := ⟨g,1,none⟩) hgB).trans (cell_later hDa k1)⟩ | go_keep)
     ((refine step_appB (by rfl) (.tmp 29) (.tmp 40) 22 (by rfl) (w.heap.size + 1) u6 _ (lz l) [(s[k].toNat : Int)] (by rfl) (by rfl) hOd hsb (by rw [hl2]; simp; omega) (by simp; omega) ?_; intro v4 w4 hO4 hb4))
    all_goals
     go_wp2
     go_roundw
    case rel =>
     have hr4 := (hr2.later hDa).below hb4 hgB
     have z4 := (z2.later hDa).below hb4 (Nat.lt_succ_self _)
     have hB4 := (hb.trans (But.of hDa)).upto hb4 (Nat.le_succ _)
     exact ⟨k + 1,l ++ [s[k]],by omega,by omega,by simp; omega,hr4,HQ,z4,hB4,by rw [lz_snoc]; exact hO4,Nat.le_trans (Nat.le_trans hz hDa.size) hb4.size⟩
    case measure =>
     have hr4 := ((hr2.later hDa).below hb4 hgB).at
     omega
   | false =>
    have hR := H2.out k l q g1 g3
    subst hR
    replace H : Hid _ := H
    clear HC H1 H2 g1 q
    go_wp2_with fail
    refine Calls.mono H.out ?_
    rintro e w1 ⟨rfl,hr1,hb1⟩
    have z1 := z.but hb1 (by omega)
    replace hb := hb.trans hb1
    clear H hb1 hr z ho
    have H := HT.out k w1 hr1 (by omega)
    rw [g3,if_neg (by simp)] at H
    replace H : Hid _ := H
    clear HT g3
    go_wp2_with fail
    refine Calls.mono H.out ?_
    rintro e w2 ⟨rfl,hr2,hb2⟩
    have z2 := z1.but hb2 (by omega)
    replace hb := hb.trans hb2
    have k1 := hr2.c1
    obtain ⟨c0,c1,c2,c3⟩ := z2.cells
    obtain ⟨f0,f1,f2,f3⟩ := z2.free
    clear H hb2 hr1 z1
    go_wp2
    go_region
    all_goals go_wp2
    all_goals refine bodyPost_ret (v := wrA (flt k 4)) (by simp [results,Tryz.results69,go_sem,c0,c1,c2,c3,wrA,tkA,flt]) rfl ⟨rfl,(hb.new4 (Nat.le_refl _) _ _ _ _).rdrew 1,fun k => by simp [flt] at k⟩
end Go.Proofs.YtfopfhlohihihaaGreat
