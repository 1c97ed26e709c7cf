import Derived.Test.YtfopfhlohihihaaGreatSaq
import Derived.Test.YtfopfhlohihihaaGreatSaa
import Derived.Test.YtfopfhlohihihaaGreatSam
import Derived.Test.YtfopfhlohihihaaGreatSap
import Derived.Deep.RegionHeld3
namespace Go.Proofs.YtfopfhlohihihaaGreat
open Go.RowKit
set_option linter.unusedVariables false
set_option linter.unusedSimpArgs false
def dblQ : List UInt8 → List UInt8
 | [] => []
 | x :: r => if x.toNat = 39 then x :: 39 :: dblQ r else x :: dblQ r
theorem dblQ_snoc (l : List UInt8) (x : UInt8) : dblQ (l ++ [x]) = dblQ l ++ (if x.toNat = 39 then [x,39] else [x]) := by
 induction l with
 | nil => simp only [List.nil_append,dblQ]
 | cons y l ih =>
  rw [List.cons_append,dblQ,dblQ,ih]
  split <;> simp
theorem dblQ_len (l : List UInt8) : (dblQ l).length ≤ 2 * l.length := by
 induction l with
 | nil => exact Nat.le_refl _
 | cons y l ih =>
  rw [dblQ]
  split <;> simp <;> omega
def quB (s : ByteArray) : ByteArray := ⟨(39 :: dblQ (bs s) ++ [39]).toArray⟩
def vaB (p : Pay) : ByteArray := if p.1 = 1 then ⟨(Lib.itoa p.2.1).toArray⟩ else quB p.2.2.1
def coB (t n : ByteArray) : ByteArray := if t = ⟨#[]⟩ then n else (t ++ ⟨#[46]⟩) ++ n
theorem str_one (s : ByteArray) (hs : s.size ≤ 1000000) (k : Nat) (h : k < s.size) (w : World) : (Instr.slice 9 (.string s) (some (.int .i64 (k : Int))) (some (.int .i64 ((k : Int) + 1))) none).run Tryz.prog w = .ok (.string ⟨#[s[k]]⟩) w := by
 have e : s.extract k (k + 1) = ⟨#[s[k]]⟩ := by
  apply ByteArray.ext
  apply Array.toList_inj.1
  have := bs_extract s k (k + 1)
  rw [bs,Nat.add_sub_cancel_left,drop_at h] at this
  exact this
 rw [← e]
 obtain ⟨m,hm⟩ : ∃ m,m = k + 1 := ⟨_,rfl⟩
 have hm2 : (k : Int) + 1 = (m : Int) := by omega
 rw [hm2,← hm]
 have h1 : k ≤ m := by omega
 have h2 : m ≤ s.size := by omega
 clear hm hm2 e h
 go_simp
theorem bs_take_succ {s : ByteArray} {k : Nat} (h : k < s.size) : (bs s).take (k + 1) = (bs s).take k ++ [s[k]] := by
 have hl : k < (bs s).length := by rw [bs_length]; exact h
 rw [List.take_succ_eq_append_getElem hl]
 rfl
set_option maxRecDepth 100000 in
set_option maxHeartbeats 2000000 in
theorem fQuoted_any (s : ByteArray) (hs : s.size ≤ 1000000) (w : World) : Calls Tryz.prog 60 #[.string s] w fun e w' => e = .returned (.string (quB s)) ∧ Below w.heap.size w w' := by
 have HQ : Hid (quB s = ⟨(39 :: dblQ (bs s) ++ [39]).toArray⟩) := hid rfl
 generalize quB s = RR at *
 go_enter Tryz.func60,Tryz.ntmps60
 go_wp2
 go_loopw [3,4] (fun o i wr => ∃ (k : Nat) (S : ByteArray),k ≤ s.size ∧ o = .string S ∧ i = .int .i64 k ∧ S.size ≤ 2 * k + 1 ∧ Hid (S = ⟨(39 :: dblQ ((bs s).take k)).toArray⟩) ∧ wr = w) (fun _ i _ => s.size - (intOf i).toNat)
 case atStart => exact ⟨0,⟨#[39]⟩,Nat.zero_le _,rfl,rfl,by decide,hid rfl,rfl⟩
 case round =>
  obtain ⟨k,S,hk,rfl,rfl,hz,HS,rfl⟩ := hrel
  by_cases hlt : k < s.size
  ·have hsl := str_one s hs k hlt
   have hix := str_index s k hlt
   have hwr : IntKind.i64.wrap (k : Int) = k := by rw [IntKind.wrap_i64]; omega
   have HN : Hid _ := hid (dblQ_snoc ((bs s).take k) s[k])
   rw [← bs_take_succ hlt] at HN
   by_cases h39 : s[k].toNat = 39
   ·have g3 : ((s[k].toNat : Int) == 39) = true := by simp; omega
    have HS2 : Hid ((S ++ ⟨#[s[k]]⟩) ++ ⟨#[39]⟩ = ⟨(39 :: dblQ ((bs s).take (k + 1))).toArray⟩) := hid (by
     have a1 : (⟨(39 :: dblQ ((bs s).take k)).toArray⟩ : ByteArray) ++ ⟨#[s[k]]⟩ = ⟨((39 :: dblQ ((bs s).take k)) ++ [s[k]]).toArray⟩ := cat_lists _ [s[k]]
     have a2 : (⟨((39 :: dblQ ((bs s).take k)) ++ [s[k]]).toArray⟩ : ByteArray) ++ ⟨#[39]⟩ = ⟨(((39 :: dblQ ((bs s).take k)) ++ [s[k]]) ++ [39]).toArray⟩ := cat_lists _ [39]
     rw [HN.out,if_pos h39,HS.out,a1,a2]
     simp)
    have hz2 : ((S ++ ⟨#[s[k]]⟩) ++ ⟨#[39]⟩ : ByteArray).size ≤ 2 * (k + 1) + 1 := by
     rw [ByteArray.size_append,ByteArray.size_append,show (⟨#[s[k]]⟩ : ByteArray).size = 1 from rfl,show (⟨#[39]⟩ : ByteArray).size = 1 from rfl]; omega
    have hc1 : (⟨#[s[k]]⟩ : ByteArray).size = 1 := rfl
    clear h39 HS HN
    generalize (⟨#[s[k]]⟩ : ByteArray) = C at *
    go_wp2
    go_roundw
    case rel => exact ⟨k + 1,_,by omega,rfl,by go_num,hz2,HS2,by first | rfl | trivial⟩
    case measure => simp only [intOf]; omega
   ·have g3 : ((s[k].toNat : Int) == 39) = false := by simp; omega
    have HS2 : Hid (S ++ ⟨#[s[k]]⟩ = ⟨(39 :: dblQ ((bs s).take (k + 1))).toArray⟩) := hid (by
     have a1 : (⟨(39 :: dblQ ((bs s).take k)).toArray⟩ : ByteArray) ++ ⟨#[s[k]]⟩ = ⟨((39 :: dblQ ((bs s).take k)) ++ [s[k]]).toArray⟩ := cat_lists _ [s[k]]
     rw [HN.out,if_neg h39,HS.out,a1]
     simp)
    have hz2 : (S ++ ⟨#[s[k]]⟩ : ByteArray).size ≤ 2 * (k + 1) + 1 := by
     rw [ByteArray.size_append,show (⟨#[s[k]]⟩ : ByteArray).size = 1 from rfl]; omega
    have hc1 : (⟨#[s[k]]⟩ : ByteArray).size = 1 := rfl
    clear h39 HS HN
    generalize (⟨#[s[k]]⟩ : ByteArray) = C at *
    go_wp2
    go_roundw
    case rel => exact ⟨k + 1,_,by omega,rfl,by go_num,hz2,HS2,by first | rfl | trivial⟩
    case measure => simp only [intOf]; omega
  ·obtain rfl : k = s.size := by omega
   have HE : Hid (S ++ ⟨#[39]⟩ = RR) := hid (by
    have a1 : (⟨(39 :: dblQ (bs s)).toArray⟩ : ByteArray) ++ ⟨#[39]⟩ = ⟨((39 :: dblQ (bs s)) ++ [39]).toArray⟩ := cat_lists _ [39]
    rw [HQ.out,HS.out,List.take_of_length_le (by rw [bs_length]; exact Nat.le_refl _),a1])
   clear HS HQ
   go_wp2
   go_ret
   exact ⟨by rw [HE.out]; rfl,Below.refl _ _⟩
theorem quB_size (s : ByteArray) : (quB s).size ≤ 2 * s.size + 2 := by
 have h := dblQ_len (bs s)
 rw [bs_length] at h
 rw [quB,sz_mk]
 simp
 omega
set_option maxRecDepth 100000 in
set_option maxHeartbeats 1000000 in
theorem fValue_any (p : Pay) (hf : Fits p.2.1) (hs : p.2.2.1.size ≤ 1000000) (w : World) : Calls Tryz.prog 39 #[.agg #[.int .i64 p.1,.int .i64 p.2.1,.string p.2.2.1]] w fun e w' => e = .returned (.string (vaB p)) ∧ Below w.heap.size w w' := by
 obtain ⟨k,i,s,t,n⟩ := p
 have HI : Hid (∀ w,_) := hid fun w => refShow_any i hf w
 have HQ : Hid (∀ w,_) := hid fun w => fQuoted_any s hs w
 have HV : Hid (vaB (k,i,s,t,n) = if k = 1 then ⟨(Lib.itoa i).toArray⟩ else quB s) := hid rfl
 generalize vaB (k,i,s,t,n) = RR at *
 by_cases hk : k = 1
 ·subst hk
  have E : Hid _ := hid (HV.out.trans (if_pos rfl))
  generalize (⟨(Lib.itoa i).toArray⟩ : ByteArray) = D at *
  clear HV HQ
  go_enter Tryz.func39,Tryz.ntmps39
  go_wp2_with fail
  refine Calls.mono (HI.out _) ?_
  rintro e w1 ⟨rfl,hb1⟩
  have hB := Below.on (bal (Below.refl _ w) _) hb1
  clear HI hb1
  go_wp2
  go_ret
  exact ⟨by rw [E.out]; rfl,hB⟩
 ·have g1 : (k == 1) = false := by simpa using hk
  have E : Hid _ := hid (HV.out.trans (if_neg hk))
  generalize quB s = D at *
  clear HV HI hk
  go_enter Tryz.func39,Tryz.ntmps39
  go_wp2_with fail
  refine Calls.mono (HQ.out _) ?_
  rintro e w1 ⟨rfl,hb1⟩
  have hB := Below.on (bal (Below.refl _ w) _) hb1
  clear HQ hb1
  go_wp2
  go_ret
  exact ⟨by rw [E.out]; rfl,hB⟩
set_option maxRecDepth 100000 in
set_option maxHeartbeats 1000000 in
theorem fCol2_any (t n : ByteArray) (ht : t.size ≤ 1000000) (hn : n.size ≤ 1000000) (w : World) : Calls Tryz.prog 40 #[.string t,.string n] w fun e w' => e = .returned (.string (coB t n)) ∧ Below w.heap.size w w' := by
 have hs : (t.toList == (⟨#[]⟩ : ByteArray).toList) = eqS t ⟨#[]⟩ := same_str t ⟨#[]⟩
 by_cases h : t = ⟨#[]⟩
 ·subst h
  have E : Hid (coB ⟨#[]⟩ n = n) := hid (if_pos rfl)
  generalize coB ⟨#[]⟩ n = RR at *
  go_enter Tryz.func40,Tryz.ntmps40
  go_wp2
  go_ret
  exact ⟨by rw [E.out]; rfl,Below.refl _ _⟩
 ·have E : Hid (coB t n = (t ++ ⟨#[46]⟩) ++ n) := hid (if_neg h)
  have he : eqS t ⟨#[]⟩ = false := by
   cases hc : eqS t ⟨#[]⟩ with
   | false => rfl
   | true => exact absurd (by simpa [eqS] using hc) h
  rw [he] at hs
  have e0 : (⟨#[]⟩ : ByteArray).toList = [] := by rw [ByteArray.toList_eq]
  have hi : t.toList.isEmpty = false := by
   rw [e0] at hs
   cases hl : t.toList with
   | nil => rw [hl] at hs; cases hs
   | cons x l => rfl
  generalize coB t n = RR at *
  clear h he e0 hs
  go_enter Tryz.func40,Tryz.ntmps40
  go_wp2
  go_ret
  exact ⟨by rw [E.out]; rfl,Below.refl _ _⟩
def opT : Nat → ByteArray
 | 0 => ⟨#[43]⟩
 | 1 => ⟨#[45]⟩
 | 2 => ⟨#[42]⟩
 | 3 => ⟨#[61]⟩
 | 4 => ⟨#[60,62]⟩
 | 5 => ⟨#[60]⟩
 | 6 => ⟨#[60,61]⟩
 | 7 => ⟨#[62]⟩
 | 8 => ⟨#[62,61]⟩
 | 9 => ⟨#[97,110,100]⟩
 | _ => ⟨#[111,114]⟩
theorem opT_size : ∀ j,(opT j).size ≤ 3
 | 0 => by decide
 | 1 => by decide
 | 2 => by decide
 | 3 => by decide
 | 4 => by decide
 | 5 => by decide
 | 6 => by decide
 | 7 => by decide
 | 8 => by decide
 | 9 => by decide
 | _ + 10 => (by decide : (⟨#[111,114]⟩ : ByteArray).size ≤ 3)
def shE : Tr → ByteArray
 | .nil => ⟨#[]⟩
 | .node _ op p l r =>
  if op = 1 then (if p.1 = 1 ∧ p.2.1 < 0 then ⟨#[]⟩ else vaB p)
  else if op = 2 then coB p.2.2.2.1 p.2.2.2.2
  else if op = 3 then (⟨#[40,45]⟩ ++ shE l) ++ ⟨#[41]⟩
  else if op = 4 then (⟨#[40,110,111,116,32]⟩ ++ shE l) ++ ⟨#[41]⟩
  else (((((⟨#[40]⟩ ++ shE l) ++ ⟨#[32]⟩) ++ opT (op - 5)) ++ ⟨#[32]⟩) ++ shE r) ++ ⟨#[41]⟩
def WfT : Tr → Prop
 | .nil => False
 | .node _ op p l r => (Fits p.2.1 ∧ p.2.2.1.size ≤ 1000 ∧ p.2.2.2.1.size ≤ 1000 ∧ p.2.2.2.2.size ≤ 1000) ∧ ((op = 1 ∨ op = 2) ∨ ((op = 3 ∨ op = 4) ∧ WfT l) ∨ (5 ≤ op ∧ op ≤ 15 ∧ WfT l ∧ WfT r))
theorem WfT.no {t : Tr} (h : WfT t) : noT t = false := by
 cases t with
 | nil => exact h.elim
 | node => rfl
theorem ops11_cell (w : World) : ∀ j,j < 11 → (w.alloc (.cells #[.string ⟨#[43]⟩,.string ⟨#[45]⟩,.string ⟨#[42]⟩,.string ⟨#[61]⟩,.string ⟨#[60,62]⟩,.string ⟨#[60]⟩,.string ⟨#[60,61]⟩,.string ⟨#[62]⟩,.string ⟨#[62,61]⟩,.string ⟨#[97,110,100]⟩,.string ⟨#[111,114]⟩] 9)).cell? ⟨w.heap.size,j,none⟩ = some (.string (opT j)) := by
 intro j hj
 match j,hj with
 | 0,_ => exact cell_new w _ _ _ 0
 | 1,_ => exact cell_new w _ _ _ 1
 | 2,_ => exact cell_new w _ _ _ 2
 | 3,_ => exact cell_new w _ _ _ 3
 | 4,_ => exact cell_new w _ _ _ 4
 | 5,_ => exact cell_new w _ _ _ 5
 | 6,_ => exact cell_new w _ _ _ 6
 | 7,_ => exact cell_new w _ _ _ 7
 | 8,_ => exact cell_new w _ _ _ 8
 | 9,_ => exact cell_new w _ _ _ 9
 | 10,_ => exact cell_new w _ _ _ 10
theorem ops11_at : ∀ j (hj : j < 11),([.string ⟨#[43]⟩,.string ⟨#[45]⟩,.string ⟨#[42]⟩,.string ⟨#[61]⟩,.string ⟨#[60,62]⟩,.string ⟨#[60]⟩,.string ⟨#[60,61]⟩,.string ⟨#[62]⟩,.string ⟨#[62,61]⟩,.string ⟨#[97,110,100]⟩,.string ⟨#[111,114]⟩] : List Value)[j]'hj = .string (opT j) := by
 intro j hj
 match j,hj with
 | 0,_ => rfl
 | 1,_ => rfl
 | 2,_ => rfl
 | 3,_ => rfl
 | 4,_ => rfl
 | 5,_ => rfl
 | 6,_ => rfl
 | 7,_ => rfl
 | 8,_ => rfl
 | 9,_ => rfl
 | 10,_ => rfl
def ShowOK (t : Tr) : Prop := WfT t → (shE t).size ≤ 1000000 → ∀ (Q : Nat → Prop) (w : World) (v : Value),Ex Q w t v → Calls Tryz.prog 17 #[v] w fun e w' => e = .returned (.string (shE t)) ∧ Below w.heap.size w w'
set_option maxRecDepth 100000 in
set_option maxHeartbeats 2000000 in
theorem show_leaf {x op : Nat} {p : Pay} {l r : Tr} (ho : op = 1 ∨ op = 2) : ShowOK (.node x op p l r) := by
 intro hw hz Q w v h
 obtain ⟨⟨hf,h1,h2,h3⟩,-⟩ := hw
 obtain ⟨ao,n,c,rfl,-,-,-⟩ := h
 have HV : Hid (∀ w,_) := hid fun w => fValue_any p hf (by omega) w
 have HC : Hid (∀ w,_) := hid fun w => fCol2_any p.2.2.2.1 p.2.2.2.2 (by omega) (by omega) w
 rcases ho with rfl | rfl
 ·have HS : Hid (shE (.node x 1 p l r) = if p.1 = 1 ∧ p.2.1 < 0 then ⟨#[]⟩ else vaB p) := hid rfl
  generalize shE (.node x 1 p l r) = RR at *
  generalize vaB p = D at *
  obtain ⟨k,i,s,t,m⟩ := p
  clear HC hz
  unfold exV
  by_cases hk : k = 1
  ·subst hk
   by_cases hi : i < 0
   ·have gi : decide (i < 0) = true := by simpa using hi
    have E : Hid _ := hid (HS.out.trans (if_pos ⟨rfl,hi⟩))
    clear HS HV hi
    go_enter Tryz.func17,Tryz.ntmps17
    go_wp2
    go_ret
    exact ⟨by rw [E.out]; rfl,bal (Below.refl _ _) _⟩
   ·have gi : decide (i < 0) = false := by simpa using hi
    have E : Hid _ := hid (HS.out.trans (if_neg (fun k => hi k.2)))
    clear HS hi
    go_enter Tryz.func17,Tryz.ntmps17
    go_wp2_with fail
    refine Calls.mono (HV.out _) ?_
    rintro e w1 ⟨rfl,hb1⟩
    have hB := Below.on (bal (Below.refl _ w) _) hb1
    clear HV hb1
    go_wp2
    go_ret
    exact ⟨by rw [E.out]; rfl,hB⟩
  ·have gk : (k == 1) = false := by simpa using hk
   have E : Hid _ := hid (HS.out.trans (if_neg (fun e => hk e.1)))
   clear HS hk
   go_enter Tryz.func17,Tryz.ntmps17
   go_wp2_with fail
   refine Calls.mono (HV.out _) ?_
   rintro e w1 ⟨rfl,hb1⟩
   have hB := Below.on (bal (Below.refl _ w) _) hb1
   clear HV hb1
   go_wp2
   go_ret
   exact ⟨by rw [E.out]; rfl,hB⟩
 ·have E : Hid (shE (.node x 2 p l r) = coB p.2.2.2.1 p.2.2.2.2) := hid rfl
  generalize shE (.node x 2 p l r) = RR at *
  generalize coB p.2.2.2.1 p.2.2.2.2 = D at *
  obtain ⟨k,i,s,t,m⟩ := p
  clear HV hz
  unfold exV
  go_enter Tryz.func17,Tryz.ntmps17
  go_wp2_with fail
  refine Calls.mono (HC.out _) ?_
  rintro e w1 ⟨rfl,hb1⟩
  have hB := Below.on (bal (Below.refl _ w) _) hb1
  clear HC hb1
  go_wp2
  go_ret
  exact ⟨by rw [E.out]; rfl,hB⟩
theorem Ex.first {Q : Nat → Prop} {w : World} {x op : Nat} {p : Pay} {l r : Tr} {v : Value} (h : Ex Q w (.node x op p l r) v) (hl : noT l = false) : ∃ b o n c op1 p1 a1 n1 c1,v = exV op p (.slice (some ⟨b,o,none⟩) n c) ∧ 1 ≤ n ∧ n ≤ c ∧ c ≤ 1000 ∧ Ce w b o op1 p1 (.slice a1 n1 c1) ∧ Ex Q w l (exV op1 p1 (.slice a1 n1 c1)) := by
 obtain ⟨ao,n,c,hv,hn,hc,h⟩ := h
 rcases h with ⟨h1,_⟩ | ⟨h1,h2,rfl,b,o,op1,p1,a1,n1,c1,rfl,hq,hx,hl'⟩ | ⟨h1,h2,rfl,b,o,op1,p1,a1,n1,c1,op2,p2,a2,n2,c2,rfl,hq,hx,hy,hl',hr'⟩
 ·rw [hl] at h1; cases h1
 ·exact ⟨b,o,1,c,op1,p1,a1,n1,c1,hv,Nat.le_refl _,hn,hc,hx,hl'⟩
 ·exact ⟨b,o,2,c,op1,p1,a1,n1,c1,hv,by omega,hn,hc,hx,hl'⟩
theorem Ex.both {Q : Nat → Prop} {w : World} {x op : Nat} {p : Pay} {l r : Tr} {v : Value} (h : Ex Q w (.node x op p l r) v) (hl : noT l = false) (hr : noT r = false) : ∃ b o c op1 p1 a1 n1 c1 op2 p2 a2 n2 c2,v = exV op p (.slice (some ⟨b,o,none⟩) 2 c) ∧ 2 ≤ c ∧ c ≤ 1000 ∧ Ce w b o op1 p1 (.slice a1 n1 c1) ∧ Ce w b (o + 7) op2 p2 (.slice a2 n2 c2) ∧ Ex Q w l (exV op1 p1 (.slice a1 n1 c1)) ∧ Ex Q w r (exV op2 p2 (.slice a2 n2 c2)) := by
 obtain ⟨ao,n,c,hv,hn,hc,h⟩ := h
 rcases h with ⟨h1,_⟩ | ⟨h1,h2,_⟩ | ⟨h1,h2,rfl,b,o,op1,p1,a1,n1,c1,op2,p2,a2,n2,c2,rfl,hq,hx,hy,hl',hr'⟩
 ·rw [hl] at h1; cases h1
 ·rw [hr] at h2; cases h2
 ·exact ⟨b,o,c,op1,p1,a1,n1,c1,op2,p2,a2,n2,c2,hv,hn,hc,hx,hy,hl',hr'⟩
set_option maxRecDepth 100000 in
set_option maxHeartbeats 2000000 in
theorem show_one {x op : Nat} {p : Pay} {l r : Tr} (ho : op = 3 ∨ op = 4) (hl : ShowOK l) : ShowOK (.node x op p l r) := by
 intro hw hz Q w v h
 have hwl : WfT l := by
  obtain ⟨_,h | h | h⟩ := hw
  ·omega
  ·exact h.2
  ·omega
 obtain ⟨b,o,n,c,op1,p1,a1,n1,c1,rfl,hn1,hnc,hc,hx,hex⟩ := h.first hwl.no
 have hzl : (shE l).size ≤ 1000000 - 3 := by
  rcases ho with rfl | rfl
  ·have e : shE (.node x 3 p l r) = (⟨#[40,45]⟩ ++ shE l) ++ ⟨#[41]⟩ := rfl
   rw [e,ByteArray.size_append,ByteArray.size_append] at hz
   have e1 : (⟨#[40,45]⟩ : ByteArray).size = 2 := rfl
   have e2 : (⟨#[41]⟩ : ByteArray).size = 1 := rfl
   omega
  ·have e : shE (.node x 4 p l r) = (⟨#[40,110,111,116,32]⟩ ++ shE l) ++ ⟨#[41]⟩ := rfl
   rw [e,ByteArray.size_append,ByteArray.size_append] at hz
   have e1 : (⟨#[40,110,111,116,32]⟩ : ByteArray).size = 5 := rfl
   have e2 : (⟨#[41]⟩ : ByteArray).size = 1 := rfl
   omega
 have HL : Hid (∀ w1,Below w.heap.size w w1 → _) := hid fun w1 hb => hl hwl (by omega) Q w1 _ (hex.later hb)
 have hy := hx.keep (w' := w.alloc (.cells #[.int .i64 (op : Int),.int .i64 p.1,.int .i64 p.2.1,.string p.2.2.1,.string p.2.2.2.1,.string p.2.2.2.2,.slice (some ⟨b,o,none⟩) n c] 60)) ((bal (Below.refl _ w) _).block b hx.lt)
 have hbl := hx.lt
 obtain ⟨k0,k1,k2,k3,k4,k5,k6⟩ := hx
 unfold exV at HL ⊢
 rcases ho with rfl | rfl
 ·have E : Hid (shE (.node x 3 p l r) = (⟨#[40,45]⟩ ++ shE l) ++ ⟨#[41]⟩) := hid rfl
  generalize shE (.node x 3 p l r) = RR at *
  generalize shE l = Sl at *
  clear hy hex h hz hw hwl hl
  go_enter Tryz.func17,Tryz.ntmps17
  go_wp2_with fail
  refine Calls.mono (HL.out _ (bal (Below.refl _ w) _)) ?_
  rintro e w1 ⟨rfl,hb1⟩
  have hB := Below.on (bal (Below.refl _ w) _) hb1
  clear HL hb1
  go_wp2
  go_ret
  exact ⟨by rw [E.out]; rfl,hB⟩
 ·have E : Hid (shE (.node x 4 p l r) = (⟨#[40,110,111,116,32]⟩ ++ shE l) ++ ⟨#[41]⟩) := hid rfl
  generalize shE (.node x 4 p l r) = RR at *
  generalize shE l = Sl at *
  clear hy hex h hz hw hwl hl
  go_enter Tryz.func17,Tryz.ntmps17
  go_wp2_with fail
  refine Calls.mono (HL.out _ (bal (Below.refl _ w) _)) ?_
  rintro e w1 ⟨rfl,hb1⟩
  have hB := Below.on (bal (Below.refl _ w) _) hb1
  clear HL hb1
  go_wp2
  go_ret
  exact ⟨by rw [E.out]; rfl,hB⟩
set_option maxRecDepth 100000 in
set_option maxHeartbeats 20000000 in
theorem show_two {x op : Nat} {p : Pay} {l r : Tr} (h5 : 5 ≤ op) (h15 : op ≤ 15) (hl : ShowOK l) (hr : ShowOK r) : ShowOK (.node x op p l r) := by
 intro hw hz Q w v h
 have hww : WfT l ∧ WfT r := by
  obtain ⟨_,h | h | h⟩ := hw
  ·omega
  ·omega
  ·exact h.2.2
 obtain ⟨hwl,hwr⟩ := hww
 obtain ⟨j,rfl⟩ : ∃ j,op = j + 5 := ⟨op - 5,by omega⟩
 have hj : j < 11 := by omega
 obtain ⟨b,o,c,op1,p1,a1,n1,c1,op2,p2,a2,n2,c2,rfl,hc2,hc,hx,hy,ex,ey⟩ := h.both hwl.no hwr.no
 have E : shE (.node x (j + 5) p l r) = (((((⟨#[40]⟩ ++ shE l) ++ ⟨#[32]⟩) ++ opT j) ++ ⟨#[32]⟩) ++ shE r) ++ ⟨#[41]⟩ := by
  rw [shE,if_neg (by omega),if_neg (by omega),if_neg (by omega),if_neg (by omega),Nat.add_sub_cancel]
 have zo := opT_size j
 have hzz : (shE l).size + (shE r).size ≤ 1000000 := by
  rw [E] at hz
  simp only [ByteArray.size_append] at hz
  omega
 have HL : Hid (∀ w1,Below w.heap.size w w1 → _) := hid fun w1 hb => hl hwl (by omega) Q w1 _ (ex.later hb)
 have HR : Hid (∀ w1,Below w.heap.size w w1 → _) := hid fun w1 hb => hr hwr (by omega) Q w1 _ (ey.later hb)
 have HE : Hid _ := hid E
 have e5 : ((j + 5 : Nat) : Int) = (j : Int) + 5 := by omega
 have bB : Be (w.alloc (.cells #[.int .i64 ((j : Int) + 5),.int .i64 p.1,.int .i64 p.2.1,.string p.2.2.1,.string p.2.2.2.1,.string p.2.2.2.2,.slice (some ⟨b,o,none⟩) 2 c] 60)) w.heap.size ((j : Int) + 5) p (.slice (some ⟨b,o,none⟩) 2 c) := Be.new w _ p _
 have bC := bB.later (bal (Below.refl _ _) (.cells #[.string ⟨#[43]⟩,.string ⟨#[45]⟩,.string ⟨#[42]⟩,.string ⟨#[61]⟩,.string ⟨#[60,62]⟩,.string ⟨#[60]⟩,.string ⟨#[60,61]⟩,.string ⟨#[62]⟩,.string ⟨#[62,61]⟩,.string ⟨#[97,110,100]⟩,.string ⟨#[111,114]⟩] 9))
 have hB2 := bal (bal (Below.refl _ w) (.cells #[.int .i64 ((j : Int) + 5),.int .i64 p.1,.int .i64 p.2.1,.string p.2.2.1,.string p.2.2.2.1,.string p.2.2.2.2,.slice (some ⟨b,o,none⟩) 2 c] 60)) (.cells #[.string ⟨#[43]⟩,.string ⟨#[45]⟩,.string ⟨#[42]⟩,.string ⟨#[61]⟩,.string ⟨#[60,62]⟩,.string ⟨#[60]⟩,.string ⟨#[60,61]⟩,.string ⟨#[62]⟩,.string ⟨#[62,61]⟩,.string ⟨#[97,110,100]⟩,.string ⟨#[111,114]⟩] 9)
 have hx2 := hx.keep (hB2.block b hx.lt)
 have hy2 := hy.keep (hB2.block b hx.lt)
 have hat := ops11_at j hj
 generalize shE (.node x (j + 5) p l r) = RR at *
 generalize shE l = Sl at *
 generalize shE r = Sr at *
 clear h hz hw hwl hwr hl hr ex ey E h5 h15 hx hy bB
 unfold exV at HL HR ⊢
 rw [e5]
 clear e5
 go_enter Tryz.func17,Tryz.ntmps17
 go_upto_region 13 with fail
 try rw [hat]
 generalize opT j = So at *
 generalize (w.alloc (.cells #[.int .i64 ((j : Int) + 5),.int .i64 p.1,.int .i64 p.2.1,.string p.2.2.1,.string p.2.2.2.1,.string p.2.2.2.2,.slice (some ⟨b,o,none⟩) 2 c] 60)).alloc (.cells #[.string ⟨#[43]⟩,.string ⟨#[45]⟩,.string ⟨#[42]⟩,.string ⟨#[61]⟩,.string ⟨#[60,62]⟩,.string ⟨#[60]⟩,.string ⟨#[60,61]⟩,.string ⟨#[62]⟩,.string ⟨#[62,61]⟩,.string ⟨#[97,110,100]⟩,.string ⟨#[111,114]⟩] 9) = W at *
 have c6 : W.cell? ⟨w.heap.size,6,none⟩ = some (.slice (some ⟨b,o,none⟩) 2 c) := bC.cells.2.2.2.2.2.2
 clear bC hat
 have HB2 : Hid (∀ w',Below W.heap.size W w' → Below w.heap.size w w') := hid fun w' hb => Below.on hB2 hb
 have HL2 : Hid (∀ w1,Below W.heap.size W w1 → _) := hid fun w1 hb => HL.out w1 (Below.on hB2 hb)
 have HR2 : Hid (∀ w1,Below W.heap.size W w1 → _) := hid fun w1 hb => HR.out w1 (Below.on hB2 hb)
 clear HL HR hB2
 generalize hqa : w.heap.size = qa at *
 have HK : Hid (∀ w',Below W.heap.size W w' → w'.cell? ⟨qa,6,none⟩ = some (.slice (some ⟨b,o,none⟩) 2 c) ∧ (w'.cell? ⟨b,o,none⟩ = some (.int .i64 op1) ∧ w'.cell? ⟨b,o + 1,none⟩ = some (.int .i64 p1.1) ∧ w'.cell? ⟨b,o + 2,none⟩ = some (.int .i64 p1.2.1) ∧ w'.cell? ⟨b,o + 3,none⟩ = some (.string p1.2.2.1) ∧ w'.cell? ⟨b,o + 4,none⟩ = some (.string p1.2.2.2.1) ∧ w'.cell? ⟨b,o + 5,none⟩ = some (.string p1.2.2.2.2) ∧ w'.cell? ⟨b,o + 6,none⟩ = some (.slice a1 n1 c1)) ∧ (w'.cell? ⟨b,o + 7,none⟩ = some (.int .i64 op2) ∧ w'.cell? ⟨b,o + 7 + 1,none⟩ = some (.int .i64 p2.1) ∧ w'.cell? ⟨b,o + 7 + 2,none⟩ = some (.int .i64 p2.2.1) ∧ w'.cell? ⟨b,o + 7 + 3,none⟩ = some (.string p2.2.2.1) ∧ w'.cell? ⟨b,o + 7 + 4,none⟩ = some (.string p2.2.2.2.1) ∧ w'.cell? ⟨b,o + 7 + 5,none⟩ = some (.string p2.2.2.2.2) ∧ w'.cell? ⟨b,o + 7 + 6,none⟩ = some (.slice a2 n2 c2))) := hid fun w' hb => ⟨cell_later hb c6,hx2.keep (hb.block b hx2.lt),hy2.keep (hb.block b hx2.lt)⟩
 have hC : Below W.heap.size W W.drew := (Below.refl _ W).drew
 clear hx2 hy2 c6
 have k1 : ¬ 9223372036854775807 < 1 + Sl.size := by omega
 have k2 : ¬ 9223372036854775807 < 1 + Sl.size + 1 := by omega
 have k3 : ¬ 9223372036854775807 < 1 + Sl.size + 1 + So.size := by omega
 have k4 : ¬ 9223372036854775807 < 1 + Sl.size + 1 + So.size + 1 := by omega
 have k5 : ¬ 9223372036854775807 < 1 + Sl.size + 1 + So.size + 1 + Sr.size := by omega
 have k6 : ¬ 9223372036854775807 < 1 + Sl.size + 1 + So.size + 1 + Sr.size + 1 := by omega
 clear hzz zo
 go_region_held3 (fun w' => w'.cell? ⟨qa,6,none⟩ = some (.slice (some ⟨b,o,none⟩) 2 c) ∧ (w'.cell? ⟨b,o,none⟩ = some (.int .i64 op1) ∧ w'.cell? ⟨b,o + 1,none⟩ = some (.int .i64 p1.1) ∧ w'.cell? ⟨b,o + 2,none⟩ = some (.int .i64 p1.2.1) ∧ w'.cell? ⟨b,o + 3,none⟩ = some (.string p1.2.2.1) ∧ w'.cell? ⟨b,o + 4,none⟩ = some (.string p1.2.2.2.1) ∧ w'.cell? ⟨b,o + 5,none⟩ = some (.string p1.2.2.2.2) ∧ w'.cell? ⟨b,o + 6,none⟩ = some (.slice a1 n1 c1)) ∧ (w'.cell? ⟨b,o + 7,none⟩ = some (.int .i64 op2) ∧ w'.cell? ⟨b,o + 7 + 1,none⟩ = some (.int .i64 p2.1) ∧ w'.cell? ⟨b,o + 7 + 2,none⟩ = some (.int .i64 p2.2.1) ∧ w'.cell? ⟨b,o + 7 + 3,none⟩ = some (.string p2.2.2.1) ∧ w'.cell? ⟨b,o + 7 + 4,none⟩ = some (.string p2.2.2.2.1) ∧ w'.cell? ⟨b,o + 7 + 5,none⟩ = some (.string p2.2.2.2.2) ∧ w'.cell? ⟨b,o + 7 + 6,none⟩ = some (.slice a2 n2 c2))) (exact HK.out _ hC)
  (first
  | (go_at_call 17; with_reducible refine Calls.mono (HL2.out _ hC) ?_; rintro e z1 ⟨rfl,hb1⟩; replace hC := Below.on hC hb1)
  | (go_at_call 17; with_reducible refine Calls.mono (HR2.out _ hC) ?_; rintro e z2 ⟨rfl,hb2⟩; replace hC := Below.on hC hb2))
 all_goals
  go_wp2
  go_ret
  exact ⟨by rw [HE.out]; rfl,by rw [hqa]; exact HB2.out _ hC⟩
theorem show_expr (t : Tr) : ShowOK t := by
 induction t with
 | nil => intro h; exact h.elim
 | node x op p l r ihl ihr =>
  intro hw
  obtain ⟨_,h | ⟨h,_⟩ | ⟨h5,h15,_⟩⟩ := id hw
  ·exact show_leaf h hw
  ·exact show_one h ihl hw
  ·exact show_two h5 h15 ihl ihr hw
end Go.Proofs.YtfopfhlohihihaaGreat
