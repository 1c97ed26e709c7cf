import Derived.Test.YtfopfhlohihihaaGreatSao
namespace Go.Proofs.YtfopfhlohihihaaGreat
open Go.RowKit
set_option linter.unusedVariables false
set_option linter.unusedSimpArgs false
set_option maxRecDepth 100000 in
set_option maxHeartbeats 8000000 in
theorem pStmt_any {g : Nat} {S : Sa} {w : World} (h : Rp w g S 0) : Calls Tryz.prog 31 #[.pointer (some ⟨g,0,none⟩)] w (TeF g w (runP stmtP S)) := by
 have hgl := h.lt
 have hmf : ∀ (fn : Fn) (first cap : Array Value) (w : World),(Instr.makeFunc fn first cap).run Tryz.prog w = .ok (.func fn first cap) w := fun _ _ _ _ => rfl
 have K0 : Wait g w (w.alloc (.cells #[.int .i64 0,.string ⟨#[]⟩,.string ⟨#[]⟩,.slice none 0 0,.slice none 0 0,.slice none 0 0,.slice none 0 0,.string ⟨#[]⟩,.slice none 0 0,.slice none 0 0,.slice none 0 0,.bool false,.slice none 0 0] 30)) S := Wait.start h
 have E0 : Hid (runP stmtP S = runP stmtP S) := hid rfl
 generalize hRR : runP stmtP S = RR at *
 replace E0 : Hid (RR = runP stmtP S) := hid hRR.symm
 unfold stmtP at E0
 clear h hRR
 go_enter Tryz.func31,Tryz.ntmps31
 have HT1 := pTake_any K0.rp ⟨#[99,114,101,97,116,101]⟩
 cases hb1 : takeB ⟨#[99,114,101,97,116,101]⟩ S with
 | true =>
  rw [hb1] at HT1
  replace HT1 : Hid _ := hid HT1
  have E1 : Hid _ := hid (E0.out.trans (disp_true hb1))
  clear hb1 E0
  go_wp2_with fail
  refine Calls.mono HT1.out ?_
  rintro e w1 ⟨rfl,hr,hb⟩
  have K1 := K0.on hgl hr hb
  clear HT1 K0 hr hb
  have HC : Hid _ := hid (pCreate_any K1.rp)
  go_wp2_with fail
  refine Calls.mono HC.out ?_
  rintro e w2 ⟨s,rfl,hb,hr,hx⟩
  have T : Hid _ := hid (K1.tef hgl E1.out hb hr hx)
  have z := K1.zero.but hb (by omega)
  clear HC hb hr hx K1 E1
  unfold stV
  obtain ⟨m0,m1,m2,m3,m4,m5,m6,m7,m8,m9,m10,m11,m12⟩ := z.cells
  obtain ⟨n0,n1,n2,n3,n4,n5,n6,n7,n8,n9,n10,n11,n12⟩ := z.free
  clear z
  go_wp2
  refine bodyPost_ret (v := stV s) (by simp [results,Tryz.results31,go_sem,stV,m0,m1,m2,m3,m4,m5,m6,m7,m8,m9,m10,m11,m12]) rfl ?_
  exact T.out
 | false =>
  rw [hb1,takeB_false hb1] at HT1
  replace HT1 : Hid _ := hid HT1
  have E1 : Hid _ := hid (E0.out.trans (disp_false hb1))
  clear hb1 E0
  go_wp2_with fail
  refine Calls.mono HT1.out ?_
  rintro e w1 ⟨rfl,hr,hb⟩
  have K1 := K0.on hgl hr hb
  clear HT1 K0 hr hb
  have HT2 := pIs_any K1.rp ⟨#[115,101,108,101,99,116]⟩
  cases hb2 : takeB ⟨#[115,101,108,101,99,116]⟩ S with
  | true =>
   rw [hb2] at HT2
   replace HT2 : Hid _ := hid HT2
   have E2 : Hid _ := hid (E1.out.trans (is_true hb2))
   clear hb2 E1
   go_wp2_with fail
   refine Calls.mono HT2.out ?_
   rintro e w2 ⟨rfl,hb⟩
   have K2 := K1.on hgl (K1.rp.later hb) (But.of hb)
   clear HT2 K1 hb
   have HC : Hid _ := hid (pQuery_any K2.rp)
   go_wp2_with fail
   refine Calls.mono HC.out ?_
   rintro e w3 ⟨s,rfl,hb,hr,hx⟩
   have T : Hid _ := hid (K2.teg hgl E2.out hb hr hx)
   have z := K2.zero.but hb (by omega)
   clear HC hb hr hx K2 E2
   unfold stV
   obtain ⟨m0,m1,m2,m3,m4,m5,m6,m7,m8,m9,m10,m11,m12⟩ := z.cells
   obtain ⟨n0,n1,n2,n3,n4,n5,n6,n7,n8,n9,n10,n11,n12⟩ := z.free
   clear z
   go_wp2
   refine bodyPost_ret (v := stV s) (by simp [results,Tryz.results31,go_sem,stV,m0,m1,m2,m3,m4,m5,m6,m7,m8,m9,m10,m11,m12]) rfl ?_
   exact T.out
  | false =>
   rw [hb2] at HT2
   replace HT2 : Hid _ := hid HT2
   have E2 : Hid _ := hid (E1.out.trans (is_false hb2))
   clear hb2 E1
   go_wp2_with fail
   refine Calls.mono HT2.out ?_
   rintro e w2 ⟨rfl,hb⟩
   have K2 := K1.on hgl (K1.rp.later hb) (But.of hb)
   clear HT2 K1 hb
   have HT3 := pTake_any K2.rp ⟨#[98,101,103,105,110]⟩
   cases hb3 : takeB ⟨#[98,101,103,105,110]⟩ S with
   | true =>
    rw [hb3] at HT3
    replace HT3 : Hid _ := hid HT3
    have E3 : Hid _ := hid (E2.out.trans (disp_true hb3))
    clear hb3 E2
    go_wp2_with fail
    refine Calls.mono HT3.out ?_
    rintro e w3 ⟨rfl,hr,hb⟩
    have K3 := K2.on hgl hr hb
    clear HT3 K2 hr hb
    obtain ⟨q1,q2⟩ := only_run 9 (takeS ⟨#[98,101,103,105,110]⟩ S)
    have T : Hid _ := hid (TeF.fin2 (R := RR) (s := zS 9) hgl K3.but (by rw [E3.out,q1]; exact K3.rp) fun m r e => by
     rw [E3.out] at e
     rw [q2 m r e]
     exact ⟨IsS.zero _ _ 9,RowIs.nil _ _ _⟩)
    have z := K3.zero
    clear q1 q2 K3 E3
    obtain ⟨m0,m1,m2,m3,m4,m5,m6,m7,m8,m9,m10,m11,m12⟩ := z.cells
    obtain ⟨n0,n1,n2,n3,n4,n5,n6,n7,n8,n9,n10,n11,n12⟩ := z.free
    clear z
    go_wp2
    refine bodyPost_ret (v := stV (zS 9)) (by simp [results,Tryz.results31,go_sem,stV,m0,m1,m2,m3,m4,m5,m6,m7,m8,m9,m10,m11,m12]) rfl ?_
    exact T.out
   | false =>
    rw [hb3,takeB_false hb3] at HT3
    replace HT3 : Hid _ := hid HT3
    have E3 : Hid _ := hid (E2.out.trans (disp_false hb3))
    clear hb3 E2
    go_wp2_with fail
    refine Calls.mono HT3.out ?_
    rintro e w3 ⟨rfl,hr,hb⟩
    have K3 := K2.on hgl hr hb
    clear HT3 K2 hr hb
    have HT4 := pTake_any K3.rp ⟨#[99,111,109,109,105,116]⟩
    cases hb4 : takeB ⟨#[99,111,109,109,105,116]⟩ S with
    | true =>
     rw [hb4] at HT4
     replace HT4 : Hid _ := hid HT4
     have E4 : Hid _ := hid (E3.out.trans (disp_true hb4))
     clear hb4 E3
     go_wp2_with fail
     refine Calls.mono HT4.out ?_
     rintro e w4 ⟨rfl,hr,hb⟩
     have K4 := K3.on hgl hr hb
     clear HT4 K3 hr hb
     obtain ⟨q1,q2⟩ := only_run 10 (takeS ⟨#[99,111,109,109,105,116]⟩ S)
     have T : Hid _ := hid (TeF.fin2 (R := RR) (s := zS 10) hgl K4.but (by rw [E4.out,q1]; exact K4.rp) fun m r e => by
      rw [E4.out] at e
      rw [q2 m r e]
      exact ⟨IsS.zero _ _ 10,RowIs.nil _ _ _⟩)
     have z := K4.zero
     clear q1 q2 K4 E4
     obtain ⟨m0,m1,m2,m3,m4,m5,m6,m7,m8,m9,m10,m11,m12⟩ := z.cells
     obtain ⟨n0,n1,n2,n3,n4,n5,n6,n7,n8,n9,n10,n11,n12⟩ := z.free
     clear z
     go_wp2
     refine bodyPost_ret (v := stV (zS 10)) (by simp [results,Tryz.results31,go_sem,stV,m0,m1,m2,m3,m4,m5,m6,m7,m8,m9,m10,m11,m12]) rfl ?_
     exact T.out
    | false =>
     rw [hb4,takeB_false hb4] at HT4
     replace HT4 : Hid _ := hid HT4
     have E4 : Hid _ := hid (E3.out.trans (disp_false hb4))
     clear hb4 E3
     go_wp2_with fail
     refine Calls.mono HT4.out ?_
     rintro e w4 ⟨rfl,hr,hb⟩
     have K4 := K3.on hgl hr hb
     clear HT4 K3 hr hb
     have HT5 := pTake_any K4.rp ⟨#[114,111,108,108,98,97,99,107]⟩
     cases hb5 : takeB ⟨#[114,111,108,108,98,97,99,107]⟩ S with
     | true =>
      rw [hb5] at HT5
      replace HT5 : Hid _ := hid HT5
      have E5 : Hid _ := hid (E4.out.trans (disp_true hb5))
      clear hb5 E4
      go_wp2_with fail
      refine Calls.mono HT5.out ?_
      rintro e w5 ⟨rfl,hr,hb⟩
      have K5 := K4.on hgl hr hb
      clear HT5 K4 hr hb
      obtain ⟨q1,q2⟩ := only_run 11 (takeS ⟨#[114,111,108,108,98,97,99,107]⟩ S)
      have T : Hid _ := hid (TeF.fin2 (R := RR) (s := zS 11) hgl K5.but (by rw [E5.out,q1]; exact K5.rp) fun m r e => by
       rw [E5.out] at e
       rw [q2 m r e]
       exact ⟨IsS.zero _ _ 11,RowIs.nil _ _ _⟩)
      have z := K5.zero
      clear q1 q2 K5 E5
      obtain ⟨m0,m1,m2,m3,m4,m5,m6,m7,m8,m9,m10,m11,m12⟩ := z.cells
      obtain ⟨n0,n1,n2,n3,n4,n5,n6,n7,n8,n9,n10,n11,n12⟩ := z.free
      clear z
      go_wp2
      refine bodyPost_ret (v := stV (zS 11)) (by simp [results,Tryz.results31,go_sem,stV,m0,m1,m2,m3,m4,m5,m6,m7,m8,m9,m10,m11,m12]) rfl ?_
      exact T.out
     | false =>
      rw [hb5,takeB_false hb5] at HT5
      replace HT5 : Hid _ := hid HT5
      have E5 : Hid _ := hid (E4.out.trans (disp_false hb5))
      clear hb5 E4
      go_wp2_with fail
      refine Calls.mono HT5.out ?_
      rintro e w5 ⟨rfl,hr,hb⟩
      have K5 := K4.on hgl hr hb
      clear HT5 K4 hr hb
      have HT6 := pTake_any K5.rp ⟨#[114,97,105,115,101]⟩
      cases hb6 : takeB ⟨#[114,97,105,115,101]⟩ S with
      | true =>
       rw [hb6] at HT6
       replace HT6 : Hid _ := hid HT6
       have E6 : Hid _ := hid (E5.out.trans (disp_true hb6))
       clear hb6 E5
       go_wp2_with fail
       refine Calls.mono HT6.out ?_
       rintro e w6 ⟨rfl,hr,hb⟩
       have K6 := K5.on hgl hr hb
       clear HT6 K5 hr hb
       have HC : Hid _ := hid (pListTag_any K6.rp (part_tag g) shr_tag)
       rw [raise_run] at E6
       go_wp2_with fail
       refine Calls.mono HC.out ?_
       rintro e w7 ⟨ao,ln,cp,rfl,hb,hr,hx⟩
       have hlt := K6.lt
       have T : Hid _ := hid (TeF.fin2 (R := RR) (s := { zS 12 with ta := (ao,ln,cp) }) hgl (K6.but.trans hb) (by rw [E6.out,stO_mapR]; exact hr) fun m r e => by
        rw [E6.out] at e
        obtain ⟨u,e2,rfl⟩ := mapR_inr e
        exact ⟨{ IsS.zero _ _ 12 with ta := (hx u r e2).mono (by decide) fun b hb _ => by omega },RowIs.nil _ _ _⟩)
       have z := K6.zero.but hb (by omega)
       clear HC hb hr hx K6 E6
       obtain ⟨m0,m1,m2,m3,m4,m5,m6,m7,m8,m9,m10,m11,m12⟩ := z.cells
       obtain ⟨n0,n1,n2,n3,n4,n5,n6,n7,n8,n9,n10,n11,n12⟩ := z.free
       clear z
       go_wp2
       refine bodyPost_ret (v := stV { zS 12 with ta := (ao,ln,cp) }) (by simp [results,Tryz.results31,go_sem,stV,m0,m1,m2,m3,m4,m5,m6,m7,m8,m9,m10,m11,m12]) rfl ?_
       exact T.out
      | false =>
       rw [hb6,takeB_false hb6] at HT6
       replace HT6 : Hid _ := hid HT6
       have E6 : Hid _ := hid (E5.out.trans (disp_false hb6))
       clear hb6 E5
       go_wp2_with fail
       refine Calls.mono HT6.out ?_
       rintro e w6 ⟨rfl,hr,hb⟩
       have K6 := K5.on hgl hr hb
       clear HT6 K5 hr hb
       have HT7 := pTake_any K6.rp ⟨#[99,97,108,108]⟩
       cases hb7 : takeB ⟨#[99,97,108,108]⟩ S with
       | true =>
        rw [hb7] at HT7
        replace HT7 : Hid _ := hid HT7
        have E7 : Hid _ := hid (E6.out.trans (disp_true hb7))
        clear hb7 E6
        go_wp2_with fail
        refine Calls.mono HT7.out ?_
        rintro e w7 ⟨rfl,hr,hb⟩
        have K7 := K6.on hgl hr hb
        clear HT7 K6 hr hb
        have HC : Hid _ := hid (pName_any K7.rp)
        rw [call_run] at E7
        go_wp2_with fail
        refine Calls.mono HC.out ?_
        rintro e w8 ⟨x,rfl,hb,hr,hx⟩
        have T : Hid _ := hid (TeF.fin2 (R := RR) (s := { zS 13 with nm := x }) hgl (K7.but.trans hb) (by rw [E7.out,stO_mapR]; exact hr) fun m r e => by
         rw [E7.out] at e
         obtain ⟨u,e2,rfl⟩ := mapR_inr e
         exact ⟨{ IsS.zero _ _ 13 with nm := hx u r e2 },RowIs.nil _ _ _⟩)
        have z := K7.zero.but hb (by omega)
        clear HC hb hr hx K7 E7
        obtain ⟨m0,m1,m2,m3,m4,m5,m6,m7,m8,m9,m10,m11,m12⟩ := z.cells
        obtain ⟨n0,n1,n2,n3,n4,n5,n6,n7,n8,n9,n10,n11,n12⟩ := z.free
        clear z
        go_wp2
        refine bodyPost_ret (v := stV { zS 13 with nm := x }) (by simp [results,Tryz.results31,go_sem,stV,m0,m1,m2,m3,m4,m5,m6,m7,m8,m9,m10,m11,m12]) rfl ?_
        exact T.out
       | false =>
        rw [hb7,takeB_false hb7] at HT7
        replace HT7 : Hid _ := hid HT7
        have E7 : Hid _ := hid (E6.out.trans (disp_false hb7))
        clear hb7 E6
        go_wp2_with fail
        refine Calls.mono HT7.out ?_
        rintro e w7 ⟨rfl,hr,hb⟩
        have K7 := K6.on hgl hr hb
        clear HT7 K6 hr hb
        have HC : Hid _ := hid (pChange_any K7.rp)
        go_wp2_with fail
        refine Calls.mono HC.out ?_
        rintro e w8 ⟨s,rfl,hb,hr,hx⟩
        have T : Hid _ := hid (K7.teg hgl E7.out hb hr hx)
        have z := K7.zero.but hb (by omega)
        clear HC hb hr hx K7 E7
        unfold stV
        obtain ⟨m0,m1,m2,m3,m4,m5,m6,m7,m8,m9,m10,m11,m12⟩ := z.cells
        obtain ⟨n0,n1,n2,n3,n4,n5,n6,n7,n8,n9,n10,n11,n12⟩ := z.free
        clear z
        go_wp2
        refine bodyPost_ret (v := stV s) (by simp [results,Tryz.results31,go_sem,stV,m0,m1,m2,m3,m4,m5,m6,m7,m8,m9,m10,m11,m12]) rfl ?_
        exact T.out
theorem Lx.ended {s : ByteArray} {k : Nat} {l : List Tk} {a e : Int} (h : Lx s k l a e) : e = 0 → k ≤ s.size → Ended l ∧ l.length + k ≤ s.size + 1 :=
 Lx.all (fun k l a e => e = 0 → k ≤ s.size → Ended l ∧ l.length + k ≤ s.size + 1)
  (fun k h1 h2 => absurd h2 h1)
  (fun k h1 h2 _ hk => ⟨.inl h2,by simp; omega⟩)
  (fun k l h1 h2 _ ih _ hk => by
   rcases wordW_on hk h1 with ⟨h6,_⟩ | ⟨_,h3,h4⟩
   ·exact absurd h6 h2
   ·obtain ⟨i1,i2⟩ := ih rfl h4
    exact ⟨.inr i1,by simp; omega⟩)
  (fun k a e h1 h2 _ he _ h0 => absurd h0 he) h
theorem LexR.ended {s : ByteArray} {l : List Tk} {a e : Int} (h : LexR s l a e) (he : e = 0) : Ended l ∧ l.length ≤ 500 ∧ a = 0 := by
 rcases h with ⟨_,_,_,rfl⟩ | ⟨h4,hx⟩
 ·cases he
 ·obtain ⟨h1,h2⟩ := hx.ended he (Nat.zero_le _)
  exact ⟨h1,by omega,hx.zero he⟩
def parseW (ts : List Tk) : Re Sf := thenR (stmtP ts) fun m r => if kdOf r = 6 then .inr (m,r) else .inl (atOf r,5)
def PaR (s : ByteArray) (X : Option Sf) (a f : Int) : Prop :=
 ∃ ts b e,LexR s ts b e ∧ ((e ≠ 0 ∧ X = none ∧ a = b ∧ f = e) ∨ (e = 0 ∧ ((∃ x,parseW ts = .inl x ∧ X = none ∧ a = x.1 ∧ f = x.2 ∧ f ≠ 0) ∨ ∃ m r,parseW ts = .inr (m,r) ∧ X = some m ∧ a = 0 ∧ f = 0)))
theorem end_run (ts : List Tk) : stO (parseW ts) = endS (stO (stmtP ts)) ∧ ∀ m r,parseW ts = .inr (m,r) → stmtP ts = .inr (m,r) := by
 rw [parseW]
 cases stmtP ts with
 | inl x => exact ⟨rfl,fun m r e => by cases e⟩
 | inr x =>
  show stO (if kdOf x.2 = 6 then _ else _) = (if kdOf x.2 = 6 then _ else _) ∧ ∀ m r,(if kdOf x.2 = 6 then (.inr (x.1,x.2) : Re Sf) else .inl (atOf x.2,5)) = .inr (m,r) → _
  split
  ·exact ⟨rfl,fun m r e => e⟩
  ·exact ⟨rfl,fun m r e => by cases e⟩
theorem Rp.start {w : World} {ts : List Tk} {ao : Option Addr} {n c : Nat} (h : RdT w ao n c ts) (he : Ended ts) (hf : ts.length ≤ 500) : Rp (w.alloc (.cells #[.slice ao n c,.int .i64 0,.int .i64 0,.int .i64 0] 78)) w.heap.size (.inr ts) 0 := by
 have hp : 0 < n := by have := he.pos; rw [h.len] at this; exact this
 obtain ⟨b,o,rfl,hc⟩ := h.cells hp
 have hb : b < w.heap.size := World.block_lt_of_cell? _ _ (hc 0 hp).1
 exact Rp.of_ok ⟨heap_alloc_new w _⟩ ⟨hb,he,hf,h.later (bal (Below.refl _ w) _)⟩
def TeP (s : ByteArray) (w : World) (e : Ending) (w' : World) : Prop :=
 ∃ sv X a f,e = .returned (.tuple #[stV sv,.int .i64 a,.int .i64 f]) ∧ Below w.heap.size w w' ∧ PaR s X a f ∧ (X = none → sv = zS 0) ∧ ∀ m,X = some m → IsS (fun b => w.heap.size ≤ b) w' m.1 sv ∧ RowIs eStmt (fun b => w.heap.size ≤ b) w' (slV sv.inn) m.2
theorem but_below {g : Nat} {a w w' : World} (h : Below a.heap.size a w) (hb : But g w w') (hg : a.heap.size ≤ g) : Below a.heap.size a w' := hb.below h hg h.size
theorem set13_below {a w : World} (h : Below a.heap.size a w) (s : Sv) : Below a.heap.size a (set13 w a.heap.size s) := by
 have B := (But.of (g := a.heap.size) h).set13 (Nat.le_refl _) s
 exact ⟨B.os,B.tape,B.output,B.size,fun k hk => B.block k hk (by omega)⟩
theorem rp_setSt {w : World} {g b : Nat} {S : Sa} (h : Rp w g S 0) (z : Bs w b (zS 0)) (hb : b ≠ g) (s : Sv) : Rp (set13 w b s) g S 0 := by
 rcases h.on with ⟨y,sl,e,h1,h2⟩ | ⟨ts,b',o,n,c,e,h1,h2⟩
 ·subst e; exact Rp.of_bad h1 (h2.same (set13_heap _ _ _ (Ne.symm hb)))
 ·subst e
  have hne : b' ≠ b := by
   rintro rfl
   match ts,h2 with
   | [],h2 => exact h2.ended
   | t :: ts,h2 =>
    obtain ⟨q0,q1,q2,q3⟩ := h2.head
    have hz := z.row
    match o with
    | 0 =>
     have c2 := z.cells.2.2.1
     rw [show (0 : Nat) + 2 = 2 from rfl,c2] at q2
     simp at q2
    | 1 => have c := z.cells.2.1; rw [c] at q0; simp at q0
    | 2 => have c := z.cells.2.2.1; rw [c] at q0; simp at q0
    | 3 => have c := z.cells.2.2.2.1; rw [c] at q0; simp at q0
    | 4 => have c := z.cells.2.2.2.2.1; rw [c] at q0; simp at q0
    | 5 => have c := z.cells.2.2.2.2.2.1; rw [c] at q0; simp at q0
    | 6 => have c := z.cells.2.2.2.2.2.2.1; rw [c] at q0; simp at q0
    | 7 => have c := z.cells.2.2.2.2.2.2.2.1; rw [c] at q0; simp at q0
    | 8 => have c := z.cells.2.2.2.2.2.2.2.2.1; rw [c] at q0; simp at q0
    | 9 => have c := z.cells.2.2.2.2.2.2.2.2.2.1; rw [c] at q0; simp at q0
    | 10 => have c := z.cells.2.2.2.2.2.2.2.2.2.2.1; rw [c] at q0; simp at q0
    | 11 => have c := z.cells.2.2.2.2.2.2.2.2.2.2.2.1; rw [c] at q0; simp at q0
    | 12 => have c := z.cells.2.2.2.2.2.2.2.2.2.2.2.2; rw [c] at q0; simp at q0
    | o + 13 => unfold World.cell? at q0; rw [hz] at q0; simp at q0
  exact Rp.of_ok (h1.same (set13_heap _ _ _ (Ne.symm hb))) (h2.keep (set13_heap _ _ _ hne))
theorem bs_set13 {w : World} {b : Nat} {s : Sv} (h : Bs w b s) (s' : Sv) : Bs (set13 w b s') b s' := ⟨by simp [set13,World.setCell,Array.getElem?_modify,h.row]⟩
set_option maxRecDepth 100000 in
set_option maxHeartbeats 4000000 in
theorem parseStmt_any (s : ByteArray) (hs : s.size ≤ 9223372036854775807) (w : World) : Calls Tryz.prog 11 #[.string s] w (TeP s w) := by
 have HL : Hid _ := hid (lex_any s hs (w.alloc (.cells #[.int .i64 0,.string ⟨#[]⟩,.string ⟨#[]⟩,.slice none 0 0,.slice none 0 0,.slice none 0 0,.slice none 0 0,.string ⟨#[]⟩,.slice none 0 0,.slice none 0 0,.slice none 0 0,.bool false,.slice none 0 0] 30)))
 have b0 := Bs.new w (zS 0)
 go_enter Tryz.func11,Tryz.ntmps11
 go_wp2_with fail
 refine Calls.mono HL.out ?_
 rintro e w1 ⟨ao,n,c,ts,a1,e1,rfl,hrd,hlx,hb1⟩
 have z1 := b0.later hb1
 have hB1 : Below w.heap.size w w1 := ((Below.refl _ w).alloc (Nat.le_refl _) _).trans (hb1.mono (by simp))
 have hsz1 : w.heap.size < w1.heap.size := z1.lt
 clear HL b0 hb1
 by_cases he : e1 = 0
 ·subst he
  obtain ⟨hen,hfw,rfl⟩ := hlx.ended rfl
  have hr2 := Rp.start hrd hen hfw
  have HX : Hid _ := hid hlx
  have z2 := z1.later (bal (Below.refl _ _) (.cells #[.slice ao n c,.int .i64 0,.int .i64 0,.int .i64 0] 78))
  have hB2 := hB1.alloc hB1.size (.cells #[.slice ao n c,.int .i64 0,.int .i64 0,.int .i64 0] 78)
  have HS : Hid _ := hid (pStmt_any hr2)
  clear hlx hrd hen hfw z1 hr2
  go_wp2_with fail
  refine Calls.mono HS.out ?_
  rintro e w3 ⟨s3,rfl,hb3,hr3,hx3⟩
  have z3 := z2.but hb3 (by omega)
  have hB3 := but_below hB2 hb3 (by omega)
  have hr4 := rp_setSt hr3 z3 (by omega) s3
  have z4 := bs_set13 z3 s3
  have hB4 := set13_below hB3 s3
  have HE : Hid _ := hid (pEnd_any hr4)
  obtain ⟨en1,en2⟩ := end_run ts
  have hst : stO (runP stmtP (.inr ts)) = stO (stmtP ts) := rfl
  rw [hst,← en1] at HE
  have HX4 : Hid (∀ m r,parseW ts = .inr (m,r) → IsS (fun b => w1.heap.size + 1 ≤ b) (set13 w3 w.heap.size s3) m.1 s3 ∧ RowIs eStmt (fun b => w1.heap.size + 1 ≤ b) (set13 w3 w.heap.size s3) (slV s3.inn) m.2) := hid fun m r e => by
   obtain ⟨h1,h2⟩ := hx3 m r (en2 m r e)
   simp only [World.size_alloc] at h1 h2
   exact ⟨(h1.keep fun b hq hlt => set13_heap _ _ _ (by omega)).mono fun b hb _ => by omega,(h2.keep (by decide) fun b hq hlt => set13_heap _ _ _ (by omega)).mono (by decide) fun b hb _ => by omega⟩
  obtain ⟨m0,m1,m2,m3,m4,m5,m6,m7,m8,m9,m10,m11,m12⟩ := z3.cells
  obtain ⟨n0,n1,n2,n3,n4,n5,n6,n7,n8,n9,n10,n11,n12⟩ := z3.free
  clear HS hb3 hr3 hx3 hB2 hB3 hr4 en1 en2 hst z2 z3
  unfold stV
  go_upto_region 6 with fail
  have HEnd : Hid (∀ W,set13 w3 w.heap.size s3 = W → Calls Tryz.prog 32 #[.pointer (some ⟨w1.heap.size,0,none⟩)] W fun e w' => e = .returned (.tuple #[]) ∧ But w1.heap.size W w' ∧ Rp w' w1.heap.size (stO (parseW ts)) 0) := hid fun W hW => hW ▸ HE.out
  replace z4 : Hid (∀ W,set13 w3 w.heap.size s3 = W → Bs W w.heap.size s3) := hid fun W hW => hW ▸ z4
  replace hB4 : Hid (∀ W,set13 w3 w.heap.size s3 = W → Below w.heap.size w W) := hid fun W hW => hW ▸ hB4
  replace HX4 : Hid (∀ W,set13 w3 w.heap.size s3 = W → ∀ m r,parseW ts = .inr (m,r) → IsS (fun b => w1.heap.size + 1 ≤ b) W m.1 s3 ∧ RowIs eStmt (fun b => w1.heap.size + 1 ≤ b) W (slV s3.inn) m.2) := hid fun W hW => hW ▸ HX4.out
  unfold set13 at HEnd z4 hB4 HX4
  clear HE m0 m1 m2 m3 m4 m5 m6 m7 m8 m9 m10 m11 m12 n0 n1 n2 n3 n4 n5 n6 n7 n8 n9 n10 n11 n12
  generalize hW : (World.setCell _ _ (.slice s3.inn.1 s3.inn.2.1 s3.inn.2.2)) = W
  have H6 : Hid _ := hid (HEnd.out W hW)
  have z5 := z4.out W hW
  have hB5 := hB4.out W hW
  have HX5 : Hid _ := hid (HX4.out W hW)
  clear HEnd z4 hB4 HX4 hW
  go_wp2_with fail
  refine Calls.mono H6.out ?_
  rintro e w6 ⟨rfl,hb6,hr6⟩
  have z6 := z5.but hb6 (by omega)
  have hB6 := but_below hB5 hb6 (by omega)
  have hg6 := hr6.lt
  obtain ⟨m0,m1,m2,m3,m4,m5,m6,m7,m8,m9,m10,m11,m12⟩ := z6.cells
  obtain ⟨n0,n1,n2,n3,n4,n5,n6,n7,n8,n9,n10,n11,n12⟩ := z6.free
  clear H6 z5
  cases hP : parseW ts with
  | inl x =>
   rw [hP] at hr6
   obtain ⟨sl,hx2,hq⟩ := Rp.bad (x := x) hr6
   obtain ⟨c0,c1,c2,c3⟩ := hq.cells
   have g3 : (x.2 != 0) = true := by simpa using hx2
   have HF : Hid _ := hid hP
   clear HX5 hP hr6 hq hb6 hB5
   have HF2 : Hid (PaR s none x.1 x.2) := hid ⟨ts,0,0,HX.out,.inr ⟨rfl,.inl ⟨x,HF.out,rfl,rfl,rfl,hx2⟩⟩⟩
   have hB8 : Hid (Below w.heap.size w (set13 w6 w.heap.size (zS 0)).drew) := hid (set13_below hB6 (zS 0)).drew
   clear HX HF hx2 hB6 z6
   go_upto_region 8 with fail
   go_region
   all_goals
    go_wp2
    refine bodyPost_ret (v := .tuple #[stV (zS 0),.int .i64 x.1,.int .i64 x.2]) (by simp [results,Tryz.results11,go_sem,stV,m0,m1,m2,m3,m4,m5,m6,m7,m8,m9,m10,m11,m12]) rfl ?_
    exact ⟨zS 0,none,x.1,x.2,rfl,hB8.out,HF2.out,fun _ => rfl,fun m e => by cases e⟩
  | inr x =>
   rw [hP] at hr6
   obtain ⟨b,o,nn,cc,hq,hw⟩ := Rp.ok (ts := x.2) hr6
   obtain ⟨c0,c1,c2,c3⟩ := hq.cells
   have T : Hid (IsS (fun b => w.heap.size ≤ b) (set13 w6 w.heap.size s3) x.1.1 s3 ∧ RowIs eStmt (fun b => w.heap.size ≤ b) (set13 w6 w.heap.size s3) (slV s3.inn) x.1.2) := hid (by
    obtain ⟨h1,h2⟩ := HX5.out x.1 x.2 hP
    exact ⟨((h1.keep fun b hq hlt => hb6.block b hlt (by omega)).keep fun b hq hlt => set13_heap _ _ _ (by omega)).mono fun b hb _ => by omega,((h2.keep (by decide) fun b hq hlt => hb6.block b hlt (by omega)).keep (by decide) fun b hq hlt => set13_heap _ _ _ (by omega)).mono (by decide) fun b hb _ => by omega⟩)
   have HF : Hid (PaR s (some x.1) 0 0) := hid ⟨ts,0,0,HX.out,.inr ⟨rfl,.inr ⟨x.1,x.2,hP,rfl,rfl,rfl⟩⟩⟩
   have hB7 : Hid _ := hid (set13_below hB6 s3)
   clear HX5 hP hr6 hq hw hb6 hB5 HX hB6 z6
   go_wp2
   refine bodyPost_ret (v := .tuple #[stV s3,.int .i64 0,.int .i64 0]) (by simp [results,Tryz.results11,go_sem,stV,m0,m1,m2,m3,m4,m5,m6,m7,m8,m9,m10,m11,m12]) rfl ?_
   exact ⟨s3,some x.1,0,0,rfl,hB7.out,HF.out,fun e => (by cases e),fun m e => by cases e; exact T.out⟩
 ·have g1 : (e1 != 0) = true := by simpa using he
  have HF : Hid (PaR s none a1 e1) := hid ⟨ts,a1,e1,hlx,.inl ⟨he,rfl,rfl,rfl⟩⟩
  obtain ⟨m0,m1,m2,m3,m4,m5,m6,m7,m8,m9,m10,m11,m12⟩ := z1.cells
  obtain ⟨n0,n1,n2,n3,n4,n5,n6,n7,n8,n9,n10,n11,n12⟩ := z1.free
  have hB7 : Hid _ := hid (set13_below hB1 (zS 0))
  clear hlx hrd he hB1 z1
  go_wp2
  refine bodyPost_ret (v := .tuple #[stV (zS 0),.int .i64 a1,.int .i64 e1]) (by simp [results,Tryz.results11,go_sem,stV,m0,m1,m2,m3,m4,m5,m6,m7,m8,m9,m10,m11,m12]) rfl ?_
  exact ⟨zS 0,none,a1,e1,rfl,hB7.out,HF.out,fun _ => rfl,fun m e => by cases e⟩
def vd (n : Nat) (s : ByteArray) : Option Sf × Int × Int :=
 if (lxF n s 0).2.2 = 0 then
  match parseW (lxF n s 0).1 with
  | .inl x => (none,x)
  | .inr m => (some m.1,0,0)
 else (none,(lxF n s 0).2)
theorem vd_ok {n : Nat} {s : ByteArray} {X : Option Sf} {a f : Int} (hs : s.size ≤ 400) (h9 : (lxF n s 0).2.2 ≠ 99) (h : PaR s X a f) : vd n s = (X,a,f) := by
 have hl : LexR s (lxF n s 0).1 (lxF n s 0).2.1 (lxF n s 0).2.2 := lexR_of n hs rfl h9
 obtain ⟨ts,b,e,h1,h2⟩ := h
 obtain ⟨r1,r2,r3⟩ := hl.det h1
 unfold vd
 rcases h2 with ⟨he,rfl,rfl,rfl⟩ | ⟨he,h2⟩
 ·rw [if_neg (by rw [r3]; exact he),← r2,← r3]
 ·rw [if_pos (by rw [r3]; exact he),r1]
  rcases h2 with ⟨x,hx,rfl,rfl,rfl,_⟩ | ⟨m,r,hx,rfl,rfl,rfl⟩
  ·rw [hx]
  ·rw [hx]
def chkB : Bool :=
 decide ((lxF 20 ⟨#[115,101,108,101,99,116,32,42,32,102,114,111,109,32,116,32,119,104,101,114,101,32,97,32,61,32,49]⟩ 0).2.2 ≠ 99) && decide ((lxF 20 ⟨#[99,111,109,109,105,116,32,120]⟩ 0).2.2 ≠ 99) &&
 (match vd 20 ⟨#[115,101,108,101,99,116,32,42,32,102,114,111,109,32,116,32,119,104,101,114,101,32,97,32,61,32,49]⟩ with
  | (some m,a,f) => decide (f = 0) && decide (m.1.kind = 6) && decide (m.1.table = ⟨#[116]⟩) && decide (m.1.wh.length = 1)
  | _ => false) &&
 (match vd 20 ⟨#[99,111,109,109,105,116,32,120]⟩ with
  | (_,a,f) => decide (a = 7) && decide (f = 5))
theorem chkB_ok : chkB = true := by decide +kernel
theorem begun1 {X : Option Sf} {a f : Int} (h : PaR ⟨#[115,101,108,101,99,116,32,42,32,102,114,111,109,32,116,32,119,104,101,114,101,32,97,32,61,32,49]⟩ X a f) : ∃ m,X = some m ∧ f = 0 ∧ m.1.kind = 6 ∧ m.1.table = ⟨#[116]⟩ ∧ m.1.wh.length = 1 := by
 have hc := chkB_ok
 unfold chkB at hc
 simp only [Bool.and_eq_true,decide_eq_true_eq] at hc
 have := vd_ok (by decide) hc.1.1.1 h
 have h2 := hc.1.2
 rw [this] at h2
 cases X with
 | none => simp at h2
 | some m =>
  simp only [Bool.and_eq_true,decide_eq_true_eq] at h2
  exact ⟨m,rfl,h2.1.1.1,h2.1.1.2,h2.1.2,h2.2⟩
theorem begun2 {X : Option Sf} {a f : Int} (h : PaR ⟨#[99,111,109,109,105,116,32,120]⟩ X a f) : a = 7 ∧ f = 5 := by
 have hc := chkB_ok
 unfold chkB at hc
 simp only [Bool.and_eq_true,decide_eq_true_eq] at hc
 have := vd_ok (by decide) hc.1.1.2 h
 have h2 := hc.2
 rw [this] at h2
 exact h2
theorem RowIs.num {α : Type} {e : Ek α} {Q : Nat → Prop} {w : World} {s : Sl} {l : List α} (h : RowIs e Q w (slV s) l) : s.2.1 = l.length ∧ s.2.1 ≤ s.2.2 ∧ s.2.2 ≤ 9223372036854775807 := by
 obtain ⟨ao,n,c,hv,hl,hn,hc,_⟩ := h
 simp only [Value.slice.injEq] at hv
 obtain ⟨_,h2,h3⟩ := hv
 omega
set_option maxRecDepth 100000 in
set_option maxHeartbeats 2000000 in
theorem begun_any (w : World) : Calls Tryz.prog 7 #[] w fun e w' => e = .returned (.bool true) ∧ Below w.heap.size w w' := by
 have H1 : Hid _ := hid (parseStmt_any ⟨#[115,101,108,101,99,116,32,42,32,102,114,111,109,32,116,32,119,104,101,114,101,32,97,32,61,32,49]⟩ (by decide) w)
 have H2 : Hid (∀ w,_) := hid fun w => parseStmt_any ⟨#[99,111,109,109,105,116,32,120]⟩ (by decide) w
 go_enter Tryz.func7,Tryz.ntmps7
 go_wp2_with fail
 refine Calls.mono H1.out ?_
 rintro e w1 ⟨sv,X,a,f,rfl,hb1,hp,-,hx⟩
 obtain ⟨m,rfl,rfl,hk,htb,hwh⟩ := begun1 hp
 obtain ⟨hi,-⟩ := hx m rfl
 obtain ⟨q1,q2,q3⟩ := hi.wh.num
 have e1 := hi.k
 have e2 := hi.tb
 rw [hk] at e1
 rw [htb] at e2
 rw [hwh] at q1
 obtain ⟨k,tb,nm,co,ta,va,it,jn,on,wh,od,ds,inn⟩ := sv
 obtain ⟨wa,wn,wc⟩ := wh
 replace e1 : k = 6 := e1
 replace e2 : tb = ⟨#[116]⟩ := e2
 replace q1 : wn = 1 := q1
 replace q2 : wn ≤ wc := q2
 replace q3 : wc ≤ 9223372036854775807 := q3
 subst e1 e2 q1
 have x1 := Bs.new w1 ⟨6,⟨#[116]⟩,nm,co,ta,va,it,jn,on,(wa,1,wc),od,ds,inn⟩
 unfold stV
 clear H1 hp hx hi hk htb hwh
 go_upto_region 2 with fail
 generalize hW : w1.alloc _ = W at *
 have hbW : Below w.heap.size w W := hW ▸ bal hb1 _
 have x2 : Bs W w1.heap.size ⟨6,⟨#[116]⟩,nm,co,ta,va,it,jn,on,(wa,1,wc),od,ds,inn⟩ := x1
 clear x1 hW
 generalize w1.heap.size = q at *
 go_wp2_with fail
 refine Calls.mono (H2.out W) ?_
 rintro e w2 ⟨sv2,X2,a2,f2,rfl,hb2,hp2,-,-⟩
 obtain ⟨rfl,rfl⟩ := begun2 hp2
 have hB2 := Below.on hbW hb2
 have x3 := x2.later hb2
 obtain ⟨k0,k1,k2,k3,k4,k5,k6,k7,k8,k9,k10,k11,k12⟩ := x3.cells
 have hlt := x3.lt
 clear H2 hp2 hb1 hb2 hbW x2 x3
 unfold stV
 go_wp2
 go_ret
 exact ⟨rfl,bal hB2 _⟩
end Go.Proofs.YtfopfhlohihihaaGreat
