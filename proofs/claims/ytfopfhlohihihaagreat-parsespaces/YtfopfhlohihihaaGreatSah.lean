import Derived.Test.YtfopfhlohihihaaGreatSag
import Derived.Deep.RegionHeld3
namespace Go.Proofs.YtfopfhlohihihaaGreat
open Go.RowKit
set_option linter.unusedVariables false
set_option linter.unusedSimpArgs false
def PartE (g d : Nat) (P : List Tk → Re Tr) (v : Value) : Prop :=
 ∃ N,v = .func (.func N) #[.pointer (some ⟨g,0,none⟩)] #[] ∧ (∀ args w',(callFunc N args).run Tryz.prog w' = .ok (.enter N args) w') ∧
  ∀ S w,Rp w g S d → Calls Tryz.prog N #[.pointer (some ⟨g,0,none⟩)] w (TeE g d w (runP P S))
def ChR (P : List Tk → Re Tr) (l : List (ByteArray × Int)) (R : Re Tr) (S : Sa) (E : Tr → Prop) : Prop :=
 (∃ e,S = .inl e ∧ R = .inl e) ∨ ∃ ts t k,S = .inr ts ∧ ts.length ≤ k ∧ R = chainL P l k t ts ∧ E t
theorem ChR.start {P : List Tk → Re Tr} {l : List (ByteArray × Int)} {S : Sa} {E : Tr → Prop} (h : ∀ t r,runP P S = .inr (t,r) → E t) : ChR P l (runP (chainP P l) S) (stO (runP P S)) E := by
 match S with
 | .inl x => exact .inl ⟨x,rfl,rfl⟩
 | .inr ts =>
  have e1 : runP P (.inr ts) = P ts := rfl
  have e2 : runP (chainP P l) (.inr ts) = thenR (P ts) fun x r => chainL P l r.length x r := rfl
  rw [e1] at h
  rw [e1,e2]
  cases hp : P ts with
  | inl x => exact .inl ⟨x,rfl,rfl⟩
  | inr x => exact .inr ⟨x.2,x.1,x.2.length,rfl,Nat.le_refl _,rfl,h x.1 x.2 hp⟩
theorem oneOf_zero {l : List (ByteArray × Int)} (h0 : ∀ c ∈ l,0 < c.2) {ts : List Tk} (h : oneOf l ts = 0) : oneS l (.inr ts) = .inr ts := by
 have := oneOf_any (ts := ts) (fun c hc => Int.ne_of_gt (h0 c hc))
 rw [h] at this
 simp only [decide_true,Bool.not_true] at this
 simp only [oneS,this,Bool.false_eq_true,if_false]
theorem oneOf_some {l : List (ByteArray × Int)} (h0 : ∀ c ∈ l,0 < c.2) {ts : List Tk} (h : oneOf l ts ≠ 0) : oneS l (.inr ts) = .inr ts.tail ∧ 0 < oneOf l ts ∧ ∃ t r,ts = t :: r := by
 have := oneOf_any (ts := ts) (fun c hc => Int.ne_of_gt (h0 c hc))
 have e : (l.any fun c => isTk c.1 ts) = true := by rw [this]; simpa using h
 refine ⟨by simp only [oneS,e,if_true],?_,?_⟩
 ·clear this e
  induction l with
  | nil => exact absurd rfl h
  | cons c l ih =>
   rw [oneOf] at h ⊢
   split
   ·exact h0 c (by simp)
   ·rename_i hc
    rw [if_neg hc] at h
    exact ih (fun x hx => h0 x (by simp [hx])) h
 ·obtain ⟨c,_,hc⟩ := List.any_eq_true.1 e
  exact isTk_ne hc
theorem But.dr {g : Nat} {w w' : World} (h : But g w w') : But g w w'.drew := ⟨h.os,h.tape,h.output,h.size,h.block⟩
def bitOf (z : Int) : Nat := if z = 0 then 0 else 1
theorem ChR.mono {P : List Tk → Re Tr} {l : List (ByteArray × Int)} {R : Re Tr} {S : Sa} {E E' : Tr → Prop} (h : ChR P l R S E) (k : ∀ t,E t → E' t) : ChR P l R S E' := by
 rcases h with h | ⟨ts,t,n,h1,h2,h3,h4⟩
 ·exact .inl h
 ·exact .inr ⟨ts,t,n,h1,h2,h3,k t h4⟩
theorem ChR.stop {P : List Tk → Re Tr} {l : List (ByteArray × Int)} {R : Re Tr} {S : Sa} {E : Tr → Prop} (h0 : ∀ c ∈ l,0 < c.2) (h : ChR P l R S E) (hz : oneB l S = 0) : stO R = oneS l S ∧ ∀ t r,R = .inr (t,r) → E t := by
 rcases h with ⟨e,rfl,rfl⟩ | ⟨ts,t,k,rfl,hk,hR,hE⟩
 ·exact ⟨rfl,fun t r e => by cases e⟩
 ·have hz' : oneOf l ts = 0 := hz
  have e : chainL P l k t ts = .inr (t,ts) := by
   cases k with
   | zero => rfl
   | succ k => rw [chainL,if_pos hz']
  rw [hR,e,oneOf_zero h0 hz']
  exact ⟨rfl,fun t' r e => by cases e; exact hE⟩
theorem ChR.go {P : List Tk → Re Tr} {l : List (ByteArray × Int)} {R : Re Tr} {S : Sa} {E : Tr → Prop} (hP : Shr P) (h0 : ∀ c ∈ l,0 < c.2) (h : ChR P l R S E) (hz : oneB l S ≠ 0) : 0 < oneB l S ∧ ∃ t,E t ∧ szS (stO (runP P (oneS l S))) ≤ szS (oneS l S) ∧
  ∀ E' : Tr → Prop,(∀ u r,runP P (oneS l S) = .inr (u,r) → E' (tTwo (oneB l S).toNat t u)) → ChR P l R (stO (runP P (oneS l S))) E' := by
 rcases h with ⟨e,rfl,rfl⟩ | ⟨ts,t,k,rfl,hk,hR,hE⟩
 ·exact absurd rfl hz
 ·have hz' : oneOf l ts ≠ 0 := hz
  obtain ⟨e1,e2,x,r,rfl⟩ := oneOf_some h0 hz'
  rw [e1]
  refine ⟨e2,t,hE,?_,fun E' hE' => ?_⟩
  ·show szS (stO (P r)) ≤ r.length
   cases hp : P r with
   | inl y => exact Nat.zero_le _
   | inr y => exact hP r y.1 y.2 hp
  ·have hE2 : ∀ u r',P r = .inr (u,r') → E' (tTwo (oneOf l (x :: r)).toNat t u) := hE'
   show ChR P l R (stO (P r)) E'
   cases k with
   | zero => simp at hk
   | succ k =>
    rw [chainL,if_neg hz'] at hR
    have hR2 : R = thenR (P r) fun y r' => chainL P l k (tTwo (oneOf l (x :: r)).toNat t y) r' := hR
    rw [hR2]
    cases hp : P r with
    | inl y => exact .inl ⟨y,rfl,rfl⟩
    | inr y =>
     have := hP r y.1 y.2 hp
     exact .inr ⟨y.2,_,k,rfl,by simp at hk; omega,rfl,hE2 y.1 y.2 hp⟩
theorem oneS_sz (l : List (ByteArray × Int)) (S : Sa) : szS (oneS l S) ≤ szS S := by
 match S with
 | .inl x => exact Nat.le_refl _
 | .inr ts => simp only [oneS]; split <;> simp [szS]
theorem oneS_less {l : List (ByteArray × Int)} (h0 : ∀ c ∈ l,0 < c.2) {S : Sa} (h : oneB l S ≠ 0) : szS (oneS l S) < szS S := by
 match S with
 | .inl x => exact absurd rfl h
 | .inr ts =>
  have h' : oneOf l ts ≠ 0 := h
  obtain ⟨e1,_,x,r,rfl⟩ := oneOf_some h0 h'
  rw [e1]
  simp [szS]
set_option maxRecDepth 100000 in
set_option maxHeartbeats 4000000 in
theorem pChain_any {g b d : Nat} {P : List Tk → Re Tr} {l : List (ByteArray × Int)} {v : Value} {S : Sa} {w : World} (h : Rp w g S d) (hv : PartE g d P v) (hP : Shr P) (hl : l.length ≤ 10) (h0 : ∀ c ∈ l,0 < c.2) (hgb : g ≠ b) (hbl : b < w.heap.size) (hs : Cw w b l) :
  Calls Tryz.prog 102 #[.pointer (some ⟨g,0,none⟩),v,.slice (some ⟨b,0,none⟩) l.length l.length] w (TeE g d w (runP (chainP P l) S)) := by
 have hgl := h.lt
 obtain ⟨N,rfl,hN,hc⟩ := hv
 have b0 : Be (w.alloc (.cells #[.int .i64 0,.int .i64 0,.int .i64 0,.string ⟨#[]⟩,.string ⟨#[]⟩,.string ⟨#[]⟩,.slice none 0 0] 60)) w.heap.size 0 nilP (.slice none 0 0) := Be.new w 0 nilP (.slice none 0 0)
 have H1 : Hid _ := hid (hc S _ (h.alloc (.cells #[.int .i64 0,.int .i64 0,.int .i64 0,.string ⟨#[]⟩,.string ⟨#[]⟩,.string ⟨#[]⟩,.slice none 0 0] 60)))
 have HP : Hid (∀ S w,Rp w g S d → _) := hid hc
 have HO : Hid (∀ (S : Sa) (w' : World),Rp w' g S d → But g w w' → _) := hid fun S w' hr hb => pOneOf_any hr l hl hgb (hs.but hb (Ne.symm hgb))
 generalize hR : runP (chainP P l) S = R at *
 have HR : Hid (∀ E : Tr → Prop,(∀ t r,runP P S = .inr (t,r) → E t) → ChR P l R (stO (runP P S)) E) := hid fun E k => hR ▸ ChR.start k
 generalize l.length = n at *
 clear h hc hs hR
 go_enter Tryz.func102,Tryz.ntmps102
 go_wp2_with fail
 refine Calls.mono H1.out ?_
 rintro e w1 ⟨o1,p1,a1,n1,c1,rfl,hb1,hr1,hx1⟩
 have hsz1 : w.heap.size + 1 ≤ w1.heap.size := by have := hb1.size; simp at this; omega
 have hB1 : But g w w1 := hb1.behind
 have z1 := b0.but hb1 (by omega)
 have x2 := Be.new w1 o1 p1 (.slice a1 n1 c1)
 have z2 := z1.later (bal (Below.refl _ w1) (.cells #[.int .i64 o1,.int .i64 p1.1,.int .i64 p1.2.1,.string p1.2.2.1,.string p1.2.2.2.1,.string p1.2.2.2.2,.slice a1 n1 c1] 60))
 have hr2 := hr1.alloc (.cells #[.int .i64 o1,.int .i64 p1.1,.int .i64 p1.2.1,.string p1.2.2.1,.string p1.2.2.2.1,.string p1.2.2.2.2,.slice a1 n1 c1] 60)
 have hB2 := hB1.alloc (.cells #[.int .i64 o1,.int .i64 p1.1,.int .i64 p1.2.1,.string p1.2.2.1,.string p1.2.2.2.1,.string p1.2.2.2.2,.slice a1 n1 c1] 60)
 have HE : Hid (ChR P l R (stO (runP P S)) fun t => Ex (fun b => w.heap.size + 1 ≤ b ∧ b ≠ w1.heap.size) (w1.alloc (.cells #[.int .i64 o1,.int .i64 p1.1,.int .i64 p1.2.1,.string p1.2.2.1,.string p1.2.2.2.1,.string p1.2.2.2.2,.slice a1 n1 c1] 60)) t (exV o1 p1 (.slice a1 n1 c1))) :=
  hid (HR.out _ fun t r e => ((hx1 t r e).mono fun k hk hk2 => ⟨by simpa using hk,by omega⟩).later (bal (Below.refl _ w1) _))
 have H2 : Hid _ := hid (HO.out _ _ hr2 hB2)
 clear H1 HR hx1 hb1 hB1 z1 b0 hr1
 have hqle : w.heap.size ≤ w1.heap.size := by omega
 generalize hq : w1.heap.size = q at *
 generalize stO (runP P S) = S1 at *
 unfold exV
 go_wp2_with fail
 refine Calls.mono H2.out ?_
 rintro e w3 ⟨rfl,hr3,hb3⟩
 have hB3 := hB2.trans hb3
 have hq3 : q < w3.heap.size := by have := hb3.size; simp at this; omega
 have x3 := x2.but hb3 (by omega)
 have z3 := z2.but hb3 (by omega)
 have HE3 : Hid (ChR P l R S1 fun t => Ex (fun b => w.heap.size + 1 ≤ b ∧ b ≠ q) w3 t (exV o1 p1 (.slice a1 n1 c1))) := hid (HE.out.mono fun t ht => ht.but hb3 (by omega))
 clear H2 HE hb3 hB2 x2 z2 hr2 hq
 go_wp2
 go_loopw [8] (fun v8 wr => ∃ (S1 : Sa) (o : Int) (p : Pay) (ao : Option Addr) (m c : Nat),v8 = .int .i64 (oneB l S1) ∧ Rp wr g (oneS l S1) d ∧ But g w wr ∧ q < wr.heap.size ∧ Be wr q o p (.slice ao m c) ∧ Be wr w.heap.size 0 nilP (.slice none 0 0) ∧ Hid (ChR P l R S1 fun t => Ex (fun b => w.heap.size + 1 ≤ b ∧ b ≠ q) wr t (exV o p (.slice ao m c)))) (fun v8 wr => 2 * szW g wr + bitOf (intOf v8))
 case atStart => exact ⟨S1,o1,p1,a1,n1,c1,rfl,hr3,hB3,hq3,x3,z3,HE3⟩
 case round =>
  clear hr3 hB3 hq3 x3 z3 HE3
  obtain ⟨S2,o,p,ao,m,c,rfl,hr,hB,hqw,hx,hz,HE⟩ := hrel
  obtain ⟨k0,k1,k2,k3,k4,k5,k6⟩ := hx.cells
  rw [Nat.zero_add] at k1 k2 k3 k4 k5 k6
  have hm := hr.sz
  by_cases hzz : oneB l S2 = 0
  ·obtain ⟨e1,e2⟩ := HE.out.stop h0 hzz
   have E1 : Hid _ := hid e1
   have E2 : Hid _ := hid e2
   rw [← e1] at hr
   obtain ⟨m0,m1,m2,m3,m4,m5,m6⟩ := hz.cells
   obtain ⟨n0,n1,n2,n3,n4,n5,n6⟩ := hz.free
   rw [hzz]
   clear hzz e1 e2 HE hm
   go_wp2
   refine bodyPost_ret (v := exV o p (.slice ao m c)) (by simp [results,Tryz.results102,go_sem,exV,m0,m1,m2,m3,m4,m5,m6]) rfl (TeE.fin hgl hB hr fun t r e => (E2.out t r e).mono fun k hk _ => hk.1)
  ·obtain ⟨hpos,t,hE,hle,hgo⟩ := HE.out.go hP h0 hzz
   have HT : Hid _ := hid hE
   have HG : Hid _ := hid hgo
   have HS : Hid _ := hid hle
   have HZ : Hid _ := hid hzz
   have hop : ((oneB l S2).toNat : Int) = oneB l S2 := by omega
   have g1 : (oneB l S2 != 0) = true := by simpa using hzz
   clear hE hgo hle hzz HE
   generalize oneB l S2 = op at *
   generalize oneS l S2 = S3 at *
   have HC : Hid _ := hid (HP.out S3 wr.drew hr.drew)
   have hxd : Be wr.drew q o p (.slice ao m c) := hx.keep rfl
   have hBd : But g w wr.drew := hB.dr
   have hzd : Be wr.drew w.heap.size 0 nilP (.slice none 0 0) := hz.keep rfl
   have hqd : q < wr.drew.heap.size := hqw
   have hgd : wr.drew.heap.size = wr.heap.size := rfl
   go_upto_region 5 with fail
   go_region_with (first
     | (refine Calls.mono HC.out ?_; rintro e z1 ⟨o2,p2,a2,n2,c2,rfl,hb1,hr1,hx1⟩; have y1 := hxd.but hb1 (by omega); obtain ⟨j0,j1,j2,j3,j4,j5,j6⟩ := y1.cells; rw [Nat.zero_add] at j1 j2 j3 j4 j5 j6; unfold exV)
     | (refine Calls.mono (pTwo_any op o p (.slice ao m c) o2 p2 (.slice a2 n2 c2) z1) ?_; rintro e z2 ⟨bb,rfl,hbb,hb2,hc1,hc2⟩; have y2 := y1.later hb2; obtain ⟨i0,i1,i2,i3,i4,i5,i6⟩ := y2.cells; rw [Nat.zero_add] at i1 i2 i3 i4 i5 i6; obtain ⟨f0,f1,f2,f3,f4,f5,f6⟩ := y2.free; unfold exV))
   all_goals
    have hbt := hb1.later hb2
    have hB5 := (hBd.trans hbt).set7 (b := q) hqle op nilP (.slice (some ⟨bb,0,none⟩) 2 2)
    have hr5 := (hr1.later hb2).set7 (b := q) (by omega) op nilP (.slice (some ⟨bb,0,none⟩) 2 2)
    have x5 := y2.set op nilP (.slice (some ⟨bb,0,none⟩) 2 2)
    have z5 : Be (set7 z2 q op nilP (.slice (some ⟨bb,0,none⟩) 2 2)) w.heap.size 0 nilP (.slice none 0 0) := (hzd.but hbt (by omega)).keep (set7_heap _ _ _ _ _ (by omega))
    have hz1 := hb1.size
    have hqz : q < (set7 z2 q op nilP (.slice (some ⟨bb,0,none⟩) 2 2)).heap.size := by rw [set7_size]; have := hbt.size; omega
    have HN : Hid _ := hid (HG.out (fun t => Ex (fun b => w.heap.size + 1 ≤ b ∧ b ≠ q) (set7 z2 q op nilP (.slice (some ⟨bb,0,none⟩) 2 2)) t (exV op nilP (.slice (some ⟨bb,0,none⟩) 2 2))) fun u r e => by
     have h1 : Ex (fun b => w.heap.size + 1 ≤ b ∧ b ≠ q) z2 t (exV o p (.slice ao m c)) := (Ex.keep (w := wr) (w' := wr.drew) (fun _ _ _ => rfl) HT.out).but hbt (by omega)
     have h2 : Ex (fun b => w.heap.size + 1 ≤ b ∧ b ≠ q) z2 u (exV o2 p2 (.slice a2 n2 c2)) := ((hx1 u r e).mono fun k hk _ => ⟨by omega,by omega⟩).later hb2
     have h3 := Ex.two (op := op.toNat) (Q := fun b => w.heap.size + 1 ≤ b ∧ b ≠ q) ⟨by omega,by omega⟩ hc1 hc2 h1 h2
     rw [hop] at h3
     exact h3.set7 (by omega) _ _ _)
    have H5 : Hid _ := hid (HO.out _ _ hr5 hB5)
    have hss : Hid (szS (stO (runP P S3)) ≤ szS S3) := HS
    clear HC HG HT hb1 hr1 hx1 hb2 hc1 hc2 hbt hr5 y1 y2 hB hx hz hxd hzd hBd
    go_wp2_with fail
    refine Calls.mono H5.out ?_
    rintro e w6 ⟨rfl,hr6,hb6⟩
    have hB7 := hB5.trans hb6
    have x7 := x5.but hb6 (by omega)
    have z7 := z5.but hb6 (by omega)
    have hq7 := Nat.lt_of_lt_of_le hqz hb6.size
    have HE7 : Hid _ := hid (HN.out.mono fun t ht => ht.but hb6 (by omega))
    have hm7 := hr6.sz
    clear H5 HN hb6 hB5 x5 z5
    go_wp2
    go_roundw
    case rel => exact ⟨stO (runP P S3),op,nilP,_,2,2,rfl,hr6,hB7,hq7,x7,z7,HE7⟩
    case measure =>
     rw [hm,hm7]
     have e1 := oneS_sz l (stO (runP P S3))
     have e2 : oneB l (stO (runP P S3)) ≠ 0 → szS (oneS l (stO (runP P S3))) < szS (stO (runP P S3)) := oneS_less h0
     have e3 := hss.out
     show 2 * szS (oneS l (stO (runP P S3))) + bitOf (oneB l (stO (runP P S3))) < 2 * szS S3 + bitOf op
     have e4 : bitOf op = 1 := if_neg HZ.out
     by_cases hne : oneB l (stO (runP P S3)) = 0
     ·have e5 : bitOf (oneB l (stO (runP P S3))) = 0 := if_pos hne
      omega
     ·have e5 : bitOf (oneB l (stO (runP P S3))) = 1 := if_neg hne
      have := e2 hne
      omega
theorem Rp.c1 {w : World} {g : Nat} {S : Sa} {d : Nat} (h : Rp w g S d) : w.cell? ⟨g,1,none⟩ = some (.int .i64 d) ∧ w.frozen? ⟨g,1,none⟩ = false := by
 rcases h.on with ⟨y,sl,e,h1,h2⟩ | ⟨ts,b,o,n,c,e,h1,h2⟩
 ·exact ⟨h2.cells.2.1,h2.free.2.1⟩
 ·exact ⟨h1.cells.2.1,h1.free.2.1⟩
theorem Rp.setD {w : World} {g : Nat} {S : Sa} {d : Nat} (h : Rp w g S d) (z : Int) (d' : Nat) (hz : z = (d' : Int)) : Rp (w.setCell ⟨g,1,none⟩ (.int .i64 z)) g S d' := by
 subst hz
 rcases h.on with ⟨y,sl,e,h1,h2⟩ | ⟨ts,b,o,n,c,e,h1,h2⟩
 ·subst e; exact Rp.of_bad h1 (h2.set1 _)
 ·subst e; exact Rp.of_ok (h1.set1 _) (h2.keep (Below.heap_setCell _ _ _ _ (by have := h2.lt; show b ≠ g; omega)))
theorem Ex.setG {Q : Nat → Prop} {w : World} {t : Tr} {v : Value} (h : Ex Q w t v) {b : Nat} (hb : ¬ Q b) (o : Nat) (u : Value) : Ex Q (w.setCell ⟨b,o,none⟩ u) t v :=
 h.keep fun k hq _ => Below.heap_setCell _ _ _ _ (by rintro rfl; exact hb hq)
theorem TeE.later {g d : Nat} {w w1 w2 : World} {R : Re Tr} {e : Ending} (h : TeE g d w R e w1) (hb : Below w1.heap.size w1 w2) : TeE g d w R e w2 := by
 obtain ⟨o,p,ao,n,c,h1,h2,h3,h4⟩ := h
 exact ⟨o,p,ao,n,c,h1,h2.later hb,h3.later hb,fun t r e => (h4 t r e).later hb⟩
theorem TeE.al {g d : Nat} {w w1 : World} {R : Re Tr} {e : Ending} (h : TeE g d w R e w1) (o : Obj) : TeE g d w R e (w1.alloc o) := h.later (bal (Below.refl _ _) o)
def deepP (d : Nat) (P : List Tk → Re Tr) : Option (List Tk → Re Tr) := if d = 64 then none else some P
set_option maxRecDepth 100000 in
set_option maxHeartbeats 1000000 in
theorem pWithin_any {g d : Nat} {P : List Tk → Re Tr} {v : Value} {t : Tk} {ts : List Tk} {w : World} (h : Rp w g (.inr (t :: ts)) d) (ht : t.1 ≠ 6) (hd : d ≤ 64) (hv : d < 64 → PartE g (d + 1) P v) :
  Calls Tryz.prog 118 #[.pointer (some ⟨g,0,none⟩),v] w (TeE g d w (inP (deepP d P) (t :: ts))) := by
 have hgl := h.lt
 have h0 := h.alloc (.cells #[.int .i64 0,.int .i64 0,.int .i64 0,.string ⟨#[]⟩,.string ⟨#[]⟩,.string ⟨#[]⟩,.slice none 0 0] 60)
 have b0 : Be (w.alloc (.cells #[.int .i64 0,.int .i64 0,.int .i64 0,.string ⟨#[]⟩,.string ⟨#[]⟩,.string ⟨#[]⟩,.slice none 0 0] 60)) w.heap.size 0 nilP (.slice none 0 0) := Be.new w 0 nilP (.slice none 0 0)
 have c1 := h.c1.1
 by_cases h64 : d = 64
 ·subst h64
  have HF : Hid _ := hid (pFail_any h0 6 (by decide))
  clear hv h h0
  go_enter Tryz.func118,Tryz.ntmps118
  go_wp2_with fail
  refine Calls.mono HF.out ?_
  rintro e w1 ⟨rfl,hr1,hb1⟩
  have z1 := b0.but hb1 (by omega)
  obtain ⟨m0,m1,m2,m3,m4,m5,m6⟩ := z1.cells
  obtain ⟨n0,n1,n2,n3,n4,n5,n6⟩ := z1.free
  have hB := hb1.behind
  clear HF hb1 b0 c1
  go_wp2
  refine bodyPost_ret (v := exV 0 nilP (.slice none 0 0)) (by simp [results,Tryz.results118,go_sem,exV,nilP,m0,m1,m2,m3,m4,m5,m6]) rfl (TeE.fin hgl hB hr1 fun t' r e => ?_)
  rw [deepP,if_pos rfl] at e
  cases e
 ·obtain ⟨N,rfl,hN,hc⟩ := hv (by omega)
  have HP : Hid _ := hid hc
  have HK : Hid _ := hid (pSkip_any h0 ht)
  have HD : Hid (inP (deepP d P) (t :: ts) = P ts) := hid (by rw [deepP,if_neg h64]; rfl)
  have g64 : ((d : Int) == 64) = false := by simp; omega
  clear hc h h0 hv
  go_enter Tryz.func118,Tryz.ntmps118
  go_wp2_with fail
  refine Calls.mono HK.out ?_
  rintro e w1 ⟨rfl,hr1,hb1⟩
  have z1 := b0.but hb1 (by omega)
  have hB1 := hb1.behind
  obtain ⟨d1,f1⟩ := hr1.c1
  have hr2 := hr1.setD ((d : Int) + 1) (d + 1) (by omega)
  have hB2 := hB1.trans (But.set g 1 w1 (.int .i64 ((d : Int) + 1)))
  have z2 := z1.other (r := g) (by omega) 1 (.int .i64 ((d : Int) + 1))
  have hsz : w.heap.size + 1 ≤ w1.heap.size := by have := hb1.size; simp at this; omega
  have H2 : Hid _ := hid (HP.out _ _ hr2)
  clear HK HP hb1 b0 c1 hB1 z1
  go_wp2_with fail
  refine Calls.mono H2.out ?_
  rintro e w3 ⟨o3,p3,a3,n3',c3,rfl,hb3,hr3,hx3⟩
  have hB3 := hB2.trans hb3
  have z3 := z2.but hb3 (by omega)
  have hsz3 : w.heap.size + 1 ≤ w3.heap.size := by have := hb3.size; simp at this; omega
  have hqg : w.heap.size < w3.heap.size := by omega
  obtain ⟨d4,f4⟩ := hr3.c1
  have hr5 := hr3.setD (d : Int) d rfl
  have hB5 := hB3.trans (But.set g 1 _ (.int .i64 (d : Int)))
  have HX5 : Hid (∀ t r,P ts = .inr (t,r) → Ex (fun b => w.heap.size + 1 ≤ b) (w3.setCell ⟨g,1,none⟩ (.int .i64 (d : Int))) t (exV o3 p3 (.slice a3 n3' c3))) :=
   hid fun t r e => ((hx3 t r e).mono fun k hk _ => by simp at hk; omega).setG (b := g) (by omega) 1 (.int .i64 (d : Int))
  have hgw := hr3.lt
  obtain ⟨m0,m1,m2,m3,m4,m5,m6⟩ := z3.cells
  obtain ⟨n0,n1,n2,n3,n4,n5,n6⟩ := z3.free
  clear H2 hb3 hB2 hB3 z2 z3 hr3 hx3
  unfold exV
  go_wp2
  refine bodyPost_ret (v := exV o3 p3 (.slice a3 n3' c3)) (by simp [results,Tryz.results118,go_sem,exV,m0,m1,m2,m3,m4,m5,m6,hqg]) rfl (TeE.al (TeE.fin hgl hB5 (by rw [HD.out]; exact hr5) fun t' r e => ?_) _)
  rw [HD.out] at e
  exact HX5.out t' r e
theorem opsTerm_cw (w : World) : Cw (w.alloc (.cells #[.string ⟨#[42]⟩,.int .i64 7] 128)) w.heap.size opsTerm := by
 intro i hi
 have hi' : i < 1 := hi
 match i,hi' with
 | 0,_ => simp [go_sem,opsTerm]
set_option maxRecDepth 100000 in
set_option maxHeartbeats 1000000 in
theorem pTerm_any {g d : Nat} {U : List Tk → Re Tr} (hU : ∀ S w,Rp w g S d → Calls Tryz.prog 128 #[.pointer (some ⟨g,0,none⟩)] w (TeE g d w (runP U S))) (hS : Shr U) {S : Sa} {w : World} (h : Rp w g S d) :
  Calls Tryz.prog 126 #[.pointer (some ⟨g,0,none⟩)] w (TeE g d w (runP (chainP U opsTerm) S)) := by
 have hgl := h.lt
 have hmf : ∀ (fn : Fn) (first cap : Array Value) (w : World),(Instr.makeFunc fn first cap).run Tryz.prog w = .ok (.func fn first cap) w := fun _ _ _ _ => rfl
 have b0 := (Be.new w 0 nilP (.slice none 0 0)).later (bal (Below.refl _ _) (.cells #[.string ⟨#[42]⟩,.int .i64 7] 128))
 have hcw := opsTerm_cw (w.alloc (.cells #[.int .i64 0,.int .i64 0,.int .i64 0,.string ⟨#[]⟩,.string ⟨#[]⟩,.string ⟨#[]⟩,.slice none 0 0] 60))
 rw [World.size_alloc] at hcw
 have HC : Hid _ := hid (pChain_any (b := w.heap.size + 1) ((h.alloc (.cells #[.int .i64 0,.int .i64 0,.int .i64 0,.string ⟨#[]⟩,.string ⟨#[]⟩,.string ⟨#[]⟩,.slice none 0 0] 60)).alloc (.cells #[.string ⟨#[42]⟩,.int .i64 7] 128)) ⟨128,rfl,fun _ _ => by kernel_rfl,hU⟩ hS (by decide) (by decide) (by omega) (by simp) hcw)
 rw [show opsTerm.length = 1 from rfl] at HC
 clear hU hS hcw h
 go_enter Tryz.func126,Tryz.ntmps126
 go_wp2_with fail
 refine Calls.mono HC.out ?_
 rintro e w1 ⟨o1,p1,a1,k1,c1,rfl,hb1,hr1,hx1⟩
 have z1 := b0.but hb1 (by omega)
 obtain ⟨m0,m1,m2,m3,m4,m5,m6⟩ := z1.cells
 obtain ⟨n0,n1,n2,n3,n4,n5,n6⟩ := z1.free
 have hB : But g w w1 := hb1.behind.behind
 clear HC b0 hb1 z1
 unfold exV
 go_wp2
 refine bodyPost_ret (v := exV o1 p1 (.slice a1 k1 c1)) (by simp [results,Tryz.results126,go_sem,exV,m0,m1,m2,m3,m4,m5,m6]) rfl (TeE.fin hgl hB hr1 fun t r e => (hx1 t r e).mono fun k hk _ => by simp at hk; omega)
theorem opsSum_cw (w : World) : Cw (w.alloc (.cells #[.string ⟨#[43]⟩,.int .i64 5,.string ⟨#[45]⟩,.int .i64 6] 128)) w.heap.size opsSum := by
 intro i hi
 have hi' : i < 2 := hi
 match i,hi' with
 | 0,_ => simp [go_sem,opsSum]
 | 1,_ => simp [go_sem,opsSum]
set_option maxRecDepth 100000 in
set_option maxHeartbeats 1000000 in
theorem pSum_any {g d : Nat} {U : List Tk → Re Tr} (hU : ∀ S w,Rp w g S d → Calls Tryz.prog 126 #[.pointer (some ⟨g,0,none⟩)] w (TeE g d w (runP U S))) (hS : Shr U) {S : Sa} {w : World} (h : Rp w g S d) :
  Calls Tryz.prog 123 #[.pointer (some ⟨g,0,none⟩)] w (TeE g d w (runP (chainP U opsSum) S)) := by
 have hgl := h.lt
 have hmf : ∀ (fn : Fn) (first cap : Array Value) (w : World),(Instr.makeFunc fn first cap).run Tryz.prog w = .ok (.func fn first cap) w := fun _ _ _ _ => rfl
 have b0 := (Be.new w 0 nilP (.slice none 0 0)).later (bal (Below.refl _ _) (.cells #[.string ⟨#[43]⟩,.int .i64 5,.string ⟨#[45]⟩,.int .i64 6] 128))
 have hcw := opsSum_cw (w.alloc (.cells #[.int .i64 0,.int .i64 0,.int .i64 0,.string ⟨#[]⟩,.string ⟨#[]⟩,.string ⟨#[]⟩,.slice none 0 0] 60))
 rw [World.size_alloc] at hcw
 have HC : Hid _ := hid (pChain_any (b := w.heap.size + 1) ((h.alloc (.cells #[.int .i64 0,.int .i64 0,.int .i64 0,.string ⟨#[]⟩,.string ⟨#[]⟩,.string ⟨#[]⟩,.slice none 0 0] 60)).alloc (.cells #[.string ⟨#[43]⟩,.int .i64 5,.string ⟨#[45]⟩,.int .i64 6] 128)) ⟨126,rfl,fun _ _ => by kernel_rfl,hU⟩ hS (by decide) (by decide) (by omega) (by simp) hcw)
 rw [show opsSum.length = 2 from rfl] at HC
 clear hU hS hcw h
 go_enter Tryz.func123,Tryz.ntmps123
 go_wp2_with fail
 refine Calls.mono HC.out ?_
 rintro e w1 ⟨o1,p1,a1,k1,c1,rfl,hb1,hr1,hx1⟩
 have z1 := b0.but hb1 (by omega)
 obtain ⟨m0,m1,m2,m3,m4,m5,m6⟩ := z1.cells
 obtain ⟨n0,n1,n2,n3,n4,n5,n6⟩ := z1.free
 have hB : But g w w1 := hb1.behind.behind
 clear HC b0 hb1 z1
 unfold exV
 go_wp2
 refine bodyPost_ret (v := exV o1 p1 (.slice a1 k1 c1)) (by simp [results,Tryz.results123,go_sem,exV,m0,m1,m2,m3,m4,m5,m6]) rfl (TeE.fin hgl hB hr1 fun t r e => (hx1 t r e).mono fun k hk _ => by simp at hk; omega)
theorem opsAnd_cw (w : World) : Cw (w.alloc (.cells #[.string ⟨#[97,110,100]⟩,.int .i64 14] 128)) w.heap.size opsAnd := by
 intro i hi
 have hi' : i < 1 := hi
 match i,hi' with
 | 0,_ => simp [go_sem,opsAnd]
set_option maxRecDepth 100000 in
set_option maxHeartbeats 1000000 in
theorem pAnd_any {g d : Nat} {U : List Tk → Re Tr} (hU : ∀ S w,Rp w g S d → Calls Tryz.prog 111 #[.pointer (some ⟨g,0,none⟩)] w (TeE g d w (runP U S))) (hS : Shr U) {S : Sa} {w : World} (h : Rp w g S d) :
  Calls Tryz.prog 103 #[.pointer (some ⟨g,0,none⟩)] w (TeE g d w (runP (chainP U opsAnd) S)) := by
 have hgl := h.lt
 have hmf : ∀ (fn : Fn) (first cap : Array Value) (w : World),(Instr.makeFunc fn first cap).run Tryz.prog w = .ok (.func fn first cap) w := fun _ _ _ _ => rfl
 have b0 := (Be.new w 0 nilP (.slice none 0 0)).later (bal (Below.refl _ _) (.cells #[.string ⟨#[97,110,100]⟩,.int .i64 14] 128))
 have hcw := opsAnd_cw (w.alloc (.cells #[.int .i64 0,.int .i64 0,.int .i64 0,.string ⟨#[]⟩,.string ⟨#[]⟩,.string ⟨#[]⟩,.slice none 0 0] 60))
 rw [World.size_alloc] at hcw
 have HC : Hid _ := hid (pChain_any (b := w.heap.size + 1) ((h.alloc (.cells #[.int .i64 0,.int .i64 0,.int .i64 0,.string ⟨#[]⟩,.string ⟨#[]⟩,.string ⟨#[]⟩,.slice none 0 0] 60)).alloc (.cells #[.string ⟨#[97,110,100]⟩,.int .i64 14] 128)) ⟨111,rfl,fun _ _ => by kernel_rfl,hU⟩ hS (by decide) (by decide) (by omega) (by simp) hcw)
 rw [show opsAnd.length = 1 from rfl] at HC
 clear hU hS hcw h
 go_enter Tryz.func103,Tryz.ntmps103
 go_wp2_with fail
 refine Calls.mono HC.out ?_
 rintro e w1 ⟨o1,p1,a1,k1,c1,rfl,hb1,hr1,hx1⟩
 have z1 := b0.but hb1 (by omega)
 obtain ⟨m0,m1,m2,m3,m4,m5,m6⟩ := z1.cells
 obtain ⟨n0,n1,n2,n3,n4,n5,n6⟩ := z1.free
 have hB : But g w w1 := hb1.behind.behind
 clear HC b0 hb1 z1
 unfold exV
 go_wp2
 refine bodyPost_ret (v := exV o1 p1 (.slice a1 k1 c1)) (by simp [results,Tryz.results103,go_sem,exV,m0,m1,m2,m3,m4,m5,m6]) rfl (TeE.fin hgl hB hr1 fun t r e => (hx1 t r e).mono fun k hk _ => by simp at hk; omega)
theorem opsOr_cw (w : World) : Cw (w.alloc (.cells #[.string ⟨#[111,114]⟩,.int .i64 15] 128)) w.heap.size opsOr := by
 intro i hi
 have hi' : i < 1 := hi
 match i,hi' with
 | 0,_ => simp [go_sem,opsOr]
set_option maxRecDepth 100000 in
set_option maxHeartbeats 1000000 in
theorem pExpr_any {g d : Nat} {U : List Tk → Re Tr} (hU : ∀ S w,Rp w g S d → Calls Tryz.prog 103 #[.pointer (some ⟨g,0,none⟩)] w (TeE g d w (runP U S))) (hS : Shr U) {S : Sa} {w : World} (h : Rp w g S d) :
  Calls Tryz.prog 80 #[.pointer (some ⟨g,0,none⟩)] w (TeE g d w (runP (chainP U opsOr) S)) := by
 have hgl := h.lt
 have hmf : ∀ (fn : Fn) (first cap : Array Value) (w : World),(Instr.makeFunc fn first cap).run Tryz.prog w = .ok (.func fn first cap) w := fun _ _ _ _ => rfl
 have b0 := (Be.new w 0 nilP (.slice none 0 0)).later (bal (Below.refl _ _) (.cells #[.string ⟨#[111,114]⟩,.int .i64 15] 128))
 have hcw := opsOr_cw (w.alloc (.cells #[.int .i64 0,.int .i64 0,.int .i64 0,.string ⟨#[]⟩,.string ⟨#[]⟩,.string ⟨#[]⟩,.slice none 0 0] 60))
 rw [World.size_alloc] at hcw
 have HC : Hid _ := hid (pChain_any (b := w.heap.size + 1) ((h.alloc (.cells #[.int .i64 0,.int .i64 0,.int .i64 0,.string ⟨#[]⟩,.string ⟨#[]⟩,.string ⟨#[]⟩,.slice none 0 0] 60)).alloc (.cells #[.string ⟨#[111,114]⟩,.int .i64 15] 128)) ⟨103,rfl,fun _ _ => by kernel_rfl,hU⟩ hS (by decide) (by decide) (by omega) (by simp) hcw)
 rw [show opsOr.length = 1 from rfl] at HC
 clear hU hS hcw h
 go_enter Tryz.func80,Tryz.ntmps80
 go_wp2_with fail
 refine Calls.mono HC.out ?_
 rintro e w1 ⟨o1,p1,a1,k1,c1,rfl,hb1,hr1,hx1⟩
 have z1 := b0.but hb1 (by omega)
 obtain ⟨m0,m1,m2,m3,m4,m5,m6⟩ := z1.cells
 obtain ⟨n0,n1,n2,n3,n4,n5,n6⟩ := z1.free
 have hB : But g w w1 := hb1.behind.behind
 clear HC b0 hb1 z1
 unfold exV
 go_wp2
 refine bodyPost_ret (v := exV o1 p1 (.slice a1 k1 c1)) (by simp [results,Tryz.results80,go_sem,exV,m0,m1,m2,m3,m4,m5,m6]) rfl (TeE.fin hgl hB hr1 fun t r e => (hx1 t r e).mono fun k hk _ => by simp at hk; omega)
end Go.Proofs.YtfopfhlohihihaaGreat
