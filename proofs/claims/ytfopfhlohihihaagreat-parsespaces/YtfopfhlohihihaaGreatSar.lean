import Derived.Test.YtfopfhlohihihaaGreatSap
namespace Go.Proofs.YtfopfhlohihihaaGreat
open Go.RowKit
set_option linter.unusedVariables false
set_option linter.unusedSimpArgs false
theorem got_list {p : UInt8 → Bool} {s : ByteArray} {A B : List UInt8} (h : bs s = A ++ B) : got p s A.length = (B[0]?).any p := by
 rw [got,h,List.getElem?_append_right (Nat.le_refl _),Nat.sub_self]
theorem got_list1 {p : UInt8 → Bool} {s : ByteArray} {A B : List UInt8} (h : bs s = A ++ B) : got p s (A.length + 1) = (B[1]?).any p := by
 rw [got,h,List.getElem?_append_right (by omega),show A.length + 1 - A.length = 1 from by omega]
theorem till_list {p : UInt8 → Bool} {s : ByteArray} {A B : List UInt8} (h : bs s = A ++ B) : till p s A.length = A.length + (B.takeWhile p).length := by
 rw [till,h,List.drop_left]
theorem size_list {s : ByteArray} {A B : List UInt8} (h : bs s = A ++ B) : s.size = A.length + B.length := by rw [← bs_length,h,List.length_append]
theorem extract_list {s : ByteArray} {A n r : List UInt8} (h : bs s = A ++ (n ++ r)) : s.extract A.length (A.length + n.length) = ⟨n.toArray⟩ := by
 apply ByteArray.ext
 apply Array.toList_inj.1
 have h' : s.data.toList = A ++ (n ++ r) := h
 rw [ByteArray.data_extract,Array.toList_extract,h']
 simp
theorem lx_congr {s : ByteArray} {k k' : Nat} (hw : wordW s k = wordW s k') {l : List Tk} {a e : Int} (h : Lx s k' l a e) : Lx s k l a e := by
 obtain ⟨n,hn⟩ := h.steps
 cases n with
 | zero => exact hn.elim
 | succ n =>
  refine ⟨n + 1,?_⟩
  have hn' : LxS s (LxN s n) k' l a e := hn
  show LxS s (LxN s n) k l a e
  unfold LxS at hn' ⊢
  rw [hw]
  exact hn'
theorem lx_space {s : ByteArray} {A r : List UInt8} (h : bs s = A ++ 32 :: r) {l : List Tk} {a e : Int} (hx : Lx s (A.length + 1) l a e) : Lx s A.length l a e := by
 refine lx_congr ?_ hx
 unfold wordW
 rw [till_step (by rw [got_list h]; rfl)]
theorem lx_cons {s : ByteArray} {k n : Nat} {t : Tk} (hw : wordW s k = wrd t n) (h6 : t.1 ≠ 6) {l : List Tk} (hx : Lx s n l 0 0) : Lx s k (t :: l) 0 0 := by
 have := Lx.more k l (by rw [hw]; rfl) (by rw [hw]; exact h6) (by rw [hw]; exact hx)
 rw [hw] at this
 exact this
theorem word_ns {s : ByteArray} {A r : List UInt8} {c : UInt8} (h : bs s = A ++ c :: r) (hc : isB 32 c = false) : wordW s A.length = oneW s A.length := by
 unfold wordW
 rw [till_stop (by rw [got_list h]; exact hc),endW,if_neg (by have := size_list h; simp at this; omega)]
theorem lx_sign {s : ByteArray} {A r : List UInt8} {c : UInt8} (h : bs s = A ++ c :: r) (hc : isO c = true) {l : List Tk} (hx : Lx s (A.length + 1) l 0 0) : Lx s A.length ((5,⟨#[c]⟩,0,(A.length : Int)) :: l) 0 0 := by
 have tab : ∀ c : Fin 256,isO (UInt8.ofNat c) = true → isB 32 (UInt8.ofNat c) = false ∧ isL (UInt8.ofNat c) = false ∧ isDig (UInt8.ofNat c) = false ∧ isB 39 (UInt8.ofNat c) = false ∧ isB 60 (UInt8.ofNat c) = false ∧ isB 62 (UInt8.ofNat c) = false := by decide +kernel
 have hcc : UInt8.ofNat c.toNat = c := by simp
 obtain ⟨h1,h2,h3,h4,h5,h6⟩ := tab ⟨c.toNat,c.toNat_lt⟩ (by simpa using hc)
 simp only [hcc] at h1 h2 h3 h4 h5 h6
 refine lx_cons (n := A.length + 1) ?_ (by simp) hx
 have hsg : sgn s A.length = 1 := by
  rw [sgn,if_neg (by rw [got_list h]; simp [h5]),if_neg (by rw [got_list h]; simp [h6]),if_pos (by rw [got_list h]; simp [hc])]
 rw [word_ns h h1,oneW,if_neg (by rw [got_list h]; simp [h2]),if_neg (by rw [got_list h]; simp [h3]),if_neg (by rw [got_list h]; simp [h4]),sgnW,hsg,if_neg (by decide),show s.extract A.length (A.length + 1) = ⟨#[c]⟩ from extract_list (n := [c]) h]
theorem lx_name {s : ByteArray} {A n r : List UInt8} {c : UInt8} (h : bs s = A ++ (c :: n ++ r)) (hc : isL c = true) (hn : n.all isN = true) (hr : (r[0]?).any isN = false) (hl : n.length < 16) {l : List Tk} (hx : Lx s (A.length + (n.length + 1)) l 0 0) :
  Lx s A.length ((if isW ⟨(c :: n).toArray⟩ then 2 else 1,⟨(c :: n).toArray⟩,0,(A.length : Int)) :: l) 0 0 := by
 have h' : bs s = A ++ c :: (n ++ r) := by simpa using h
 have hsp : isB 32 c = false := by
  have tab : ∀ c : Fin 256,isL (UInt8.ofNat c) = true → isB 32 (UInt8.ofNat c) = false := by decide +kernel
  have := tab ⟨c.toNat,c.toNat_lt⟩ (by simpa using hc)
  simpa using this
 have ht : till isN s A.length = A.length + (n.length + 1) := by
  rw [till_list h]
  congr 1
  have hN : isN c = true := by rw [isN,hc]; rfl
  rw [List.takeWhile_append_of_pos (by
   intro x hx
   rcases List.mem_cons.1 hx with rfl | hx
   ·exact hN
   ·exact List.all_eq_true.1 hn x hx),List.length_append,List.length_cons]
  cases r with
  | nil => simp
  | cons x r =>
   have : isN x = false := by simpa using hr
   rw [List.takeWhile_cons,this]
   simp
 have he := extract_list (n := c :: n) h
 rw [List.length_cons] at he
 refine lx_cons (n := A.length + (n.length + 1)) ?_ (by simp only []; split <;> decide) hx
 rw [word_ns h' hsp,oneW,if_pos (by rw [got_list h']; simp [hc]),nameW,ht,if_neg (by omega),he]
theorem lx_fin {s : ByteArray} : Lx s s.size [(6,⟨#[]⟩,0,(s.size : Int))] 0 0 := by
 have hw : wordW s s.size = wrd (6,⟨#[]⟩,0,s.size) s.size := by
  unfold wordW
  rw [till_stop (got_end (Nat.le_refl _)),endW,if_pos rfl]
 have := Lx.fin (s := s) s.size (by rw [hw]; rfl) (by rw [hw]; rfl)
 rw [hw] at this
 exact this
def SameOK (t : Tr) : Prop := ∀ (Q Q' : Nat → Prop) (w : World) (v v' : Value),Ex Q w t v → Ex Q' w t v' → Calls Tryz.prog 19 #[v,v'] w fun e w' => e = .returned (.bool true) ∧ Below w.heap.size w w'
theorem RowIs.at {Q : Nat → Prop} {w : World} {a : Option Addr} {n c : Nat} {l : List Tr} (h : RowIs eExpr Q w (.slice a n c) l) {k : Nat} (hk : k < l.length) : ∃ b o op p a' n' c',a = some ⟨b,o,none⟩ ∧ Ce w b (o + k * 7) op p (.slice a' n' c') ∧ Ex Q w l[k] (exV op p (.slice a' n' c')) := by
 obtain ⟨ao,n0,c0,hv,hl,_,_,hx⟩ := h
 cases hv
 obtain ⟨b,o,ha,_,hi⟩ := hx (by omega)
 obtain ⟨cs,⟨op,p,a',n',c',rfl,hE⟩,_,hc⟩ := hi k hk
 refine ⟨b,o,op,p,a',n',c',ha,?_,hE⟩
 exact ⟨hc 0 (show 0 < 7 by decide),hc 1 (show 1 < 7 by decide),hc 2 (show 2 < 7 by decide),hc 3 (show 3 < 7 by decide),hc 4 (show 4 < 7 by decide),hc 5 (show 5 < 7 by decide),hc 6 (show 6 < 7 by decide)⟩
set_option maxRecDepth 100000 in
set_option maxHeartbeats 2000000 in
theorem sameExprs_any {l : List Tr} (hl : ∀ t ∈ l,SameOK t) {Q Q' : Nat → Prop} {w : World} {v v' : Value} (h1 : RowIs eExpr Q w v l) (h2 : RowIs eExpr Q' w v' l) :
  Calls Tryz.prog 33 #[v,v'] w fun e w' => e = .returned (.bool true) ∧ Below w.heap.size w w' := by
 obtain ⟨a1,n,c1,rfl,hl1,hn1,hc1,hx1⟩ := id h1
 obtain ⟨a2,n2,c2,rfl,hl2,hn2,hc2,hx2⟩ := id h2
 obtain rfl : n2 = n := by omega
 clear hx1 hx2
 have HK : Hid (∀ k,k < n2 → ∀ w1,Below w.heap.size w w1 → ∃ b o op p a n c b' o' op' p' a' n' c',a1 = some ⟨b,o,none⟩ ∧ a2 = some ⟨b',o',none⟩ ∧ Ce w1 b (o + k * 7) op p (.slice a n c) ∧ Ce w1 b' (o' + k * 7) op' p' (.slice a' n' c') ∧
   ∀ w2,Below w.heap.size w w2 → Calls Tryz.prog 19 #[exV op p (.slice a n c),exV op' p' (.slice a' n' c')] w2 fun e w' => e = .returned (.bool true) ∧ Below w2.heap.size w2 w') := hid fun k hk w1 hb => by
  obtain ⟨b,o,op,p,a,n,c,e1,q1,x1⟩ := h1.at (k := k) (by omega)
  obtain ⟨b',o',op',p',a',n',c',e2,q2,x2⟩ := h2.at (k := k) (by omega)
  exact ⟨b,o,op,p,a,n,c,b',o',op',p',a',n',c',e1,e2,q1.keep (hb.block _ q1.lt),q2.keep (hb.block _ q2.lt),fun w2 hb2 => hl _ (List.getElem_mem _) Q Q' w2 _ _ (x1.later hb2) (x2.later hb2)⟩
 clear h1 h2 hl hl1 hl2
 generalize n2 = n at *
 go_enter Tryz.func33,Tryz.ntmps33
 go_wp2
 go_loopw [5] (fun v5 wr => ∃ k : Nat,k ≤ n ∧ v5 = .int .i64 k ∧ Hid (Below w.heap.size w wr)) (fun v5 _ => n - (intOf v5).toNat)
 case atStart => exact ⟨0,Nat.zero_le _,rfl,hid (Below.refl _ _)⟩
 case round =>
  obtain ⟨k,hk,rfl,HB⟩ := hrel
  by_cases hlt : k < n
  ·obtain ⟨b,o,op,p,a,m,c,b',o',op',p',a',m',c',rfl,rfl,q1,q2,hcall⟩ := HK.out k hlt wr HB.out
   have HC : Hid _ := hid (hcall wr.drew HB.out.drew)
   have hBd : Below w.heap.size w wr.drew := HB.out.drew
   obtain ⟨k0,k1,k2,k3,k4,k5,k6⟩ := q1
   obtain ⟨j0,j1,j2,j3,j4,j5,j6⟩ := q2
   unfold exV at HC
   clear hcall HK HB
   go_upto_region 6 with fail
   go_region_with (first | (refine Calls.mono HC.out ?_; rintro e z1 ⟨rfl,hb1⟩))
   all_goals
    have hB1 := Below.on hBd hb1
    clear HC hb1 hBd
    go_wp2
    go_roundw
    case rel => exact ⟨k + 1,by omega,by go_num,hid hB1⟩
    case measure => simp only [intOf]; omega
  ·obtain rfl : k = n := by omega
   have hB := HB.out
   clear HK HB
   go_wp2
   go_ret
   exact ⟨rfl,hB⟩
def kids (l r : Tr) : List Tr := if noT l then [] else if noT r then [l] else [l,r]
theorem Ex.kids {Q : Nat → Prop} {w : World} {x op : Nat} {p : Pay} {l r : Tr} {v : Value} (h : Ex Q w (.node x op p l r) v) : ∃ ao n c,v = exV op p (.slice ao n c) ∧ n = (kids l r).length ∧ n ≤ c ∧ c ≤ 1000 ∧ RowIs eExpr Q w (.slice ao n c) (Go.Proofs.YtfopfhlohihihaaGreat.kids l r) := by
 obtain ⟨ao,n,c,hv,hn,hc,h⟩ := h
 rcases h with ⟨h1,h2,rfl⟩ | ⟨h1,h2,rfl,b,o,op1,p1,a1,n1,c1,rfl,hq,hx,hl⟩ | ⟨h1,h2,rfl,b,o,op1,p1,a1,n1,c1,op2,p2,a2,n2,c2,rfl,hq,hx,hy,hl,hr⟩
 ·have e : Go.Proofs.YtfopfhlohihihaaGreat.kids l r = [] := by rw [Go.Proofs.YtfopfhlohihihaaGreat.kids,if_pos h1]
  rw [e]
  exact ⟨ao,0,c,hv,rfl,hn,hc,ao,0,c,rfl,rfl,hn,by omega,fun h => absurd h (by decide)⟩
 ·have e : Go.Proofs.YtfopfhlohihihaaGreat.kids l r = [l] := by rw [Go.Proofs.YtfopfhlohihihaaGreat.kids,if_neg (by rw [h1]; simp),if_pos h2]
  rw [e]
  refine ⟨_,1,c,hv,rfl,hn,hc,_,1,c,rfl,rfl,hn,by omega,fun _ => ⟨b,o,rfl,hq,fun i hi => ?_⟩⟩
  obtain rfl : i = 0 := by simp at hi; omega
  obtain ⟨q0,q1,q2,q3,q4,q5,q6⟩ := hx
  refine ⟨exC op1 p1 (.slice a1 n1 c1),⟨op1,p1,a1,n1,c1,rfl,hl⟩,rfl,fun j hj => ?_⟩
  have hj' : j < 7 := hj
  match j,hj' with
  | 0,_ => exact q0
  | 1,_ => exact q1
  | 2,_ => exact q2
  | 3,_ => exact q3
  | 4,_ => exact q4
  | 5,_ => exact q5
  | 6,_ => exact q6
 ·have e : Go.Proofs.YtfopfhlohihihaaGreat.kids l r = [l,r] := by rw [Go.Proofs.YtfopfhlohihihaaGreat.kids,if_neg (by rw [h1]; simp),if_neg (by rw [h2]; simp)]
  rw [e]
  refine ⟨_,2,c,hv,rfl,hn,hc,_,2,c,rfl,rfl,hn,by omega,fun _ => ⟨b,o,rfl,hq,fun i hi => ?_⟩⟩
  have hi' : i < 2 := hi
  match i,hi' with
  | 0,_ =>
   obtain ⟨q0,q1,q2,q3,q4,q5,q6⟩ := hx
   refine ⟨exC op1 p1 (.slice a1 n1 c1),⟨op1,p1,a1,n1,c1,rfl,hl⟩,rfl,fun j hj => ?_⟩
   have hj' : j < 7 := hj
   match j,hj' with
   | 0,_ => exact q0
   | 1,_ => exact q1
   | 2,_ => exact q2
   | 3,_ => exact q3
   | 4,_ => exact q4
   | 5,_ => exact q5
   | 6,_ => exact q6
  | 1,_ =>
   obtain ⟨q0,q1,q2,q3,q4,q5,q6⟩ := hy
   refine ⟨exC op2 p2 (.slice a2 n2 c2),⟨op2,p2,a2,n2,c2,rfl,hr⟩,rfl,fun j hj => ?_⟩
   have hj' : j < 7 := hj
   match j,hj' with
   | 0,_ => exact q0
   | 1,_ => exact q1
   | 2,_ => exact q2
   | 3,_ => exact q3
   | 4,_ => exact q4
   | 5,_ => exact q5
   | 6,_ => exact q6
set_option maxRecDepth 100000 in
set_option maxHeartbeats 2000000 in
theorem sameNode {x op : Nat} {p : Pay} {l r : Tr} (hk : ∀ t ∈ kids l r,SameOK t) : SameOK (.node x op p l r) := by
 intro Q Q' w v v' h1 h2
 obtain ⟨a1,n,c1,rfl,hl1,hn1,hc1,r1⟩ := h1.kids
 obtain ⟨a2,n2,c2,rfl,hl2,hn2,hc2,r2⟩ := h2.kids
 obtain rfl : n2 = n := by omega
 have HS : Hid (∀ w1,Below w.heap.size w w1 → _) := hid fun w1 hb => sameExprs_any hk (r1.later (by decide) hb) (r2.later (by decide) hb)
 obtain ⟨k1,i1,s1,t1,m1⟩ := p
 have hne : ∀ w,(binOp .neq 58 (.agg #[.int .i64 k1,.int .i64 i1,.string s1]) (.agg #[.int .i64 k1,.int .i64 i1,.string s1])).run Tryz.prog w = .ok (.bool false) w := fun w => by go_simp
 generalize (kids l r).length = kl at *
 clear h1 h2 r1 r2 hk hl1 hl2
 unfold exV
 go_enter Tryz.func19,Tryz.ntmps19
 go_wp2_with fail
 refine Calls.mono (HS.out _ (bal (bal (Below.refl _ w) _) _)) ?_
 rintro e w1 ⟨rfl,hb1⟩
 have hB := Below.on (bal (bal (Below.refl _ w) _) _) hb1
 clear HS hb1
 go_wp2
 go_ret
 exact ⟨rfl,hB⟩
theorem sameExpr_all (t : Tr) : SameOK t := by
 induction t with
 | nil => intro Q Q' w v v' h; exact h.elim
 | node x op p l r ihl ihr =>
  refine sameNode fun t ht => ?_
  unfold kids at ht
  split at ht
  ·cases ht
  ·split at ht
   ·rw [List.mem_singleton] at ht; subst ht; exact ihl
   ·rcases List.mem_cons.1 ht with rfl | ht
    ·exact ihl
    ·rw [List.mem_singleton] at ht; subst ht; exact ihr
end Go.Proofs.YtfopfhlohihihaaGreat
