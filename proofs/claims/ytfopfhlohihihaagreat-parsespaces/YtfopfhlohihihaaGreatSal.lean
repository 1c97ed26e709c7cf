import Derived.Test.YtfopfhlohihihaaGreatSak
namespace Go.Proofs.YtfopfhlohihihaaGreat
open Go.RowKit
set_option linter.unusedVariables false
set_option linter.unusedSimpArgs false
theorem tag_ok {S : Sa} (h : ¬ ((nxT S).1 = 3 ∧ 65535 < (nxT S).2.2.1)) : runP tagP S = mapR (fun t => IntKind.u16.wrap t.2.2.1) (runP (kindP 3) S) := by
 match S with
 | .inl x => rfl
 | .inr [] => rfl
 | .inr (t :: ts) =>
  have h' : ¬ (t.1 = 3 ∧ 65535 < t.2.2.1) := h
  show tagP (t :: ts) = mapR _ (kindP 3 (t :: ts))
  rw [tagP,kindP]
  by_cases h3 : t.1 = 3
  ·rw [if_pos h3,if_pos h3,if_neg (fun k => h' ⟨h3,k⟩)]
   rfl
  ·rw [if_neg h3,if_neg h3]
   rfl
theorem tag_big {S : Sa} (h : (nxT S).1 = 3 ∧ 65535 < (nxT S).2.2.1) : stO (runP tagP S) = failS 3 S ∧ (∀ t r,runP tagP S ≠ .inr (t,r)) ∧ ∃ x,failS 3 S = .inl x := by
 match S with
 | .inl x => exact absurd h.1 (by simp [nxT])
 | .inr [] => exact absurd h.1 (by decide)
 | .inr (t :: ts) =>
  have h' : t.1 = 3 ∧ 65535 < t.2.2.1 := h
  have e : runP tagP (.inr (t :: ts)) = .inl (t.2.2.2,3) := by
   show tagP (t :: ts) = _
   rw [tagP,if_pos h'.1,if_pos h'.2]
  rw [e]
  exact ⟨rfl,fun t r e => (by cases e),⟨_,rfl⟩⟩
set_option maxRecDepth 100000 in
set_option maxHeartbeats 1000000 in
theorem pTag_any {g : Nat} {S : Sa} {w : World} (h : Rp w g S 0) : Calls Tryz.prog 49 #[.pointer (some ⟨g,0,none⟩)] w (TeTag g w (runP tagP S)) := by
 have hgl := h.lt
 have H := pNext_any h
 have H3 : Hid _ := hid (tag_ok (S := S))
 have H4 : Hid _ := hid (tag_big (S := S))
 generalize runP tagP S = R at *
 have HF : Hid (∀ w',Rp w' g S 0 → _) := hid fun w' hr => pFail_any hr 3 (by decide)
 have HK : Hid (∀ (S : Sa) (w' : World),Rp w' g S 0 → _) := hid fun S w' hr => pKind_any hr 3 (by decide) (by decide)
 unfold tkA at H
 generalize nxT S = t at *
 obtain ⟨t0,t1,t2,t3⟩ := t
 replace H : Hid _ := hid H
 have hf := fld_int
 by_cases h3 : t0 = 3
 ·subst h3
  by_cases hbig : 65535 < t2
  ·have gb : decide ((65535 : Int) < t2) = true := by simpa using hbig
   obtain ⟨e1,e2,x,e3⟩ := H4.out ⟨rfl,hbig⟩
   have E1 : Hid _ := hid e1
   have E2 : Hid _ := hid e2
   rw [e3] at HF
   rw [e3] at E1
   clear H3 H4 hbig e1 e2
   go_enter Tryz.func49,Tryz.ntmps49
   go_wp2_with fail
   refine Calls.mono H.out ?_
   rintro e w1 ⟨rfl,hb1⟩
   have hr1 := (h.later hb1).alloc (.cells #[.int .i64 3,.string t1,.int .i64 t2,.int .i64 t3] 44)
   have H1 : Hid _ := hid (HF.out _ hr1)
   have hB1 := (But.of (g := g) hb1).alloc (.cells #[.int .i64 3,.string t1,.int .i64 t2,.int .i64 t3] 44)
   clear H HF hb1 hr1
   go_wp2_with fail
   refine Calls.mono H1.out ?_
   rintro e w2 ⟨rfl,hr2,hb2⟩
   have H2 : Hid _ := hid (HK.out _ _ hr2)
   have hB2 := hB1.trans hb2
   clear H1 HK hb2 hB1
   go_wp2_with fail
   refine Calls.mono H2.out ?_
   rintro e w3 ⟨t,rfl,hb3,hr3,hu3⟩
   have hB3 := hB2.trans hb3
   clear H2 hb3 hB2
   unfold tkA
   go_wp2
   go_ret
   exact ⟨_,rfl,hB3,by rw [E1.out]; exact hr3,fun t r e => absurd e (E2.out t r)⟩
  ·have gb : decide ((65535 : Int) < t2) = false := by simpa using hbig
   have E1 : Hid _ := hid (H3.out fun k => hbig k.2)
   clear H3 H4 hbig
   go_enter Tryz.func49,Tryz.ntmps49
   go_wp2_with fail
   refine Calls.mono H.out ?_
   rintro e w1 ⟨rfl,hb1⟩
   have hr1 := (h.later hb1).alloc (.cells #[.int .i64 3,.string t1,.int .i64 t2,.int .i64 t3] 44)
   have H2 : Hid _ := hid (HK.out _ _ hr1)
   have hB1 := (But.of (g := g) hb1).alloc (.cells #[.int .i64 3,.string t1,.int .i64 t2,.int .i64 t3] 44)
   clear H HF hb1 hr1 HK
   go_wp2_with fail
   refine Calls.mono H2.out ?_
   rintro e w3 ⟨t,rfl,hb3,hr3,hu3⟩
   have hB3 := hB1.trans hb3
   clear H2 hb3 hB1
   unfold tkA
   go_wp2
   go_ret
   refine ⟨_,rfl,hB3,by rw [E1.out,stO_mapR]; exact hr3,fun t r e => ?_⟩
   rw [E1.out] at e
   obtain ⟨u,e2,rfl⟩ := mapR_inr e
   rw [hu3 u r e2]
 ·have g3 : (t0 == 3) = false := by simpa using h3
  have E1 : Hid _ := hid (H3.out fun k => h3 k.1)
  clear H3 H4 h3
  go_enter Tryz.func49,Tryz.ntmps49
  go_wp2_with fail
  refine Calls.mono H.out ?_
  rintro e w1 ⟨rfl,hb1⟩
  have hr1 := (h.later hb1).alloc (.cells #[.int .i64 t0,.string t1,.int .i64 t2,.int .i64 t3] 44)
  have H2 : Hid _ := hid (HK.out _ _ hr1)
  have hB1 := (But.of (g := g) hb1).alloc (.cells #[.int .i64 t0,.string t1,.int .i64 t2,.int .i64 t3] 44)
  clear H HF hb1 hr1 HK
  go_wp2_with fail
  refine Calls.mono H2.out ?_
  rintro e w3 ⟨t,rfl,hb3,hr3,hu3⟩
  have hB3 := hB1.trans hb3
  clear H2 hb3 hB1
  unfold tkA
  go_wp2
  go_ret
  refine ⟨_,rfl,hB3,by rw [E1.out,stO_mapR]; exact hr3,fun t r e => ?_⟩
  rw [E1.out] at e
  obtain ⟨u,e2,rfl⟩ := mapR_inr e
  rw [hu3 u r e2]
structure Bt (w : World) (b ty : Nat) (x y z : Value) : Prop where
 row : w.heap[b]? = some (.cells #[x,y,z] ty (0,0))
theorem Bt.new (w : World) (ty : Nat) (x y z : Value) : Bt (w.alloc (.cells #[x,y,z] ty)) w.heap.size ty x y z := ⟨heap_alloc_new w _⟩
theorem Bt.lt {w : World} {b ty : Nat} {x y z : Value} (h : Bt w b ty x y z) : b < w.heap.size := (Array.getElem?_eq_some_iff.1 h.row).1
theorem Bt.keep {w w' : World} {b ty : Nat} {x y z : Value} (h : Bt w b ty x y z) (hk : w'.heap[b]? = w.heap[b]?) : Bt w' b ty x y z := ⟨hk.trans h.row⟩
theorem Bt.later {w w' : World} {b ty : Nat} {x y z : Value} (h : Bt w b ty x y z) (hb : Below w.heap.size w w') : Bt w' b ty x y z := h.keep (hb.block b h.lt)
theorem Bt.but {w w' : World} {b ty g : Nat} {x y z : Value} (h : Bt w b ty x y z) (hb : But g w w') (hg : b ≠ g) : Bt w' b ty x y z := h.keep (hb.block b h.lt hg)
theorem Bt.cells {w : World} {b ty : Nat} {x y z : Value} (h : Bt w b ty x y z) : w.cell? ⟨b,0,none⟩ = some x ∧ w.cell? ⟨b,1,none⟩ = some y ∧ w.cell? ⟨b,2,none⟩ = some z := by
 unfold World.cell?; rw [h.row]; exact ⟨rfl,rfl,rfl⟩
theorem Bt.free {w : World} {b ty : Nat} {x y z : Value} (h : Bt w b ty x y z) : w.frozen? ⟨b,0,none⟩ = false ∧ w.frozen? ⟨b,1,none⟩ = false ∧ w.frozen? ⟨b,2,none⟩ = false := by
 unfold World.frozen?; rw [h.row]; exact ⟨rfl,rfl,rfl⟩
theorem Bt.set0 {w : World} {b ty : Nat} {x y z : Value} (h : Bt w b ty x y z) (v : Value) : Bt (w.setCell ⟨b,0,none⟩ v) b ty v y z := ⟨by simp [World.setCell,Array.getElem?_modify,h.row]⟩
theorem Bt.set1 {w : World} {b ty : Nat} {x y z : Value} (h : Bt w b ty x y z) (v : Value) : Bt (w.setCell ⟨b,1,none⟩ v) b ty x v z := ⟨by simp [World.setCell,Array.getElem?_modify,h.row]⟩
theorem Bt.other {w : World} {b ty : Nat} {x y z : Value} (h : Bt w b ty x y z) {r : Nat} (hr : b ≠ r) (o : Nat) (v : Value) : Bt (w.setCell ⟨r,o,none⟩ v) b ty x y z := h.keep (Below.heap_setCell _ _ _ _ hr)
def set3 (w : World) (b : Nat) (x y z : Value) : World := ((w.setCell ⟨b,0,none⟩ x).setCell ⟨b,1,none⟩ y).setCell ⟨b,2,none⟩ z
theorem But.set3 {g : Nat} {a w : World} (h : But g a w) {b : Nat} (hb : a.heap.size ≤ b) (x y z : Value) : But g a (set3 w b x y z) := ((h.new hb 0 _).new hb 1 _).new hb 2 _
theorem Rp.set3 {w : World} {g : Nat} {S : Sa} {d : Nat} (h : Rp w g S d) {b : Nat} (hb : g < b) (x y z : Value) : Rp (set3 w b x y z) g S d := ((h.other hb 0 _).other hb 1 _).other hb 2 _
theorem TeCol.fin {g : Nat} {w w1 : World} {R : Re Co} {a f : ByteArray} {k : Int} (hg : g < w.heap.size) (hB : But g w w1) (hr : Rp w1 g (stO R) 0) (hx : ∀ t r,R = .inr (t,r) → (a,k,f) = t) :
  TeCol g w R (.returned (.agg #[.string a,.int .i64 k,.string f])) (set3 w1 w.heap.size (.string a) (.int .i64 k) (.string f)) :=
 ⟨a,k,f,rfl,hB.set3 (Nat.le_refl _) _ _ _,hr.set3 hg _ _ _,hx⟩
theorem TeItem.fin {g : Nat} {w w1 : World} {R : Re It} {a f : ByteArray} {k : Int} (hg : g < w.heap.size) (hB : But g w w1) (hr : Rp w1 g (stO R) 0) (hx : ∀ t r,R = .inr (t,r) → (k,a,f) = t) :
  TeItem g w R (.returned (.agg #[.int .i64 k,.string a,.string f])) (set3 w1 w.heap.size (.int .i64 k) (.string a) (.string f)) :=
 ⟨k,a,f,rfl,hB.set3 (Nat.le_refl _) _ _ _,hr.set3 hg _ _ _,hx⟩
theorem opsKind_pos : ∀ c ∈ opsKind,0 < c.2 := by decide
theorem opsKind_cw (w : World) : Cw (w.alloc (.cells #[.string ⟨#[105,110,116]⟩,.int .i64 1,.string ⟨#[116,101,120,116]⟩,.int .i64 2] 128)) w.heap.size opsKind := by
 intro i hi
 have hi' : i < 2 := hi
 match i,hi' with
 | 0,_ => simp [go_sem,opsKind]
 | 1,_ => simp [go_sem,opsKind]
theorem pKinds {g : Nat} {S : Sa} {d : Nat} {w : World} (h : Rp w g S d) {b : Nat} (hb : w.heap.size = b := by rfl) :
  Calls Tryz.prog 99 #[.pointer (some ⟨g,0,none⟩),.slice (some ⟨b,0,none⟩) 2 2] (w.alloc (.cells #[.string ⟨#[105,110,116]⟩,.int .i64 1,.string ⟨#[116,101,120,116]⟩,.int .i64 2] 128)) fun x w' => x = .returned (.int .i64 (oneB opsKind S)) ∧ Rp w' g (oneS opsKind S) d ∧ But g w w' := by
 subst hb
 have hgl := h.lt
 refine Calls.mono (pOneOf_any (b := w.heap.size) (h.alloc (.cells #[.string ⟨#[105,110,116]⟩,.int .i64 1,.string ⟨#[116,101,120,116]⟩,.int .i64 2] 128)) opsKind (by decide) (by omega) (opsKind_cw w)) ?_
 rintro x w' ⟨h1,h2,h3⟩
 exact ⟨h1,h2,h3.behind⟩
theorem sz_set (w : World) (a : Addr) (v : Value) : (w.setCell a v).heap.size = w.heap.size := by simp [World.setCell]
theorem col_st (S : Sa) : stO (runP colP S) = stO (runP (optP ⟨#[114,101,102]⟩ ⟨#[]⟩ nameP) (stO (runP (choiceP opsKind) (stO (runP nameP S))))) := by rw [colP,seq_st,seq_st]
theorem col_inr {S : Sa} {t : Co} {r : List Tk} (h : runP colP S = .inr (t,r)) : ∃ n q k q2 f,runP nameP S = .inr (n,q) ∧ runP (choiceP opsKind) (stO (runP nameP S)) = .inr (k,q2) ∧ runP (optP ⟨#[114,101,102]⟩ ⟨#[]⟩ nameP) (stO (runP (choiceP opsKind) (stO (runP nameP S)))) = .inr (f,r) ∧ t = (n,k,f) := by
 obtain ⟨n,x,q,h1,h2,rfl⟩ := seq_inr h
 obtain ⟨k,f,q2,h3,h4,rfl⟩ := seq_inr h2
 exact ⟨n,q,k,q2,f,h1,h3,h4,rfl⟩
set_option maxRecDepth 100000 in
set_option maxHeartbeats 2000000 in
theorem pCol_any {g : Nat} {S : Sa} {w : World} (h : Rp w g S 0) : Calls Tryz.prog 98 #[.pointer (some ⟨g,0,none⟩)] w (TeCol g w (runP colP S)) := by
 have hgl := h.lt
 have b0 := (Bt.new w 70 (.string ⟨#[]⟩) (.int .i64 0) (.string ⟨#[]⟩)).later (bal (Below.refl _ _) (.cells #[.string ⟨#[]⟩,.int .i64 0,.string ⟨#[]⟩] 70))
 have b1 := Bt.new (w.alloc (.cells #[.string ⟨#[]⟩,.int .i64 0,.string ⟨#[]⟩] 70)) 70 (.string ⟨#[]⟩) (.int .i64 0) (.string ⟨#[]⟩)
 rw [World.size_alloc] at b1
 have H1 : Hid _ := hid (pName_any ((h.alloc (.cells #[.string ⟨#[]⟩,.int .i64 0,.string ⟨#[]⟩] 70)).alloc (.cells #[.string ⟨#[]⟩,.int .i64 0,.string ⟨#[]⟩] 70)))
 have HS : Hid _ := hid (col_st S)
 have HI : Hid _ := hid fun t r (e : runP colP S = .inr (t,r)) => col_inr e
 generalize runP colP S = R at *
 clear h
 go_enter Tryz.func98,Tryz.ntmps98
 go_wp2_with fail
 refine Calls.mono H1.out ?_
 rintro e w1 ⟨s1,rfl,hb1,hr1,hu1⟩
 have hB1 : But g w w1 := hb1.behind.behind
 have x1 := b1.but hb1 (by omega)
 have z1 := b0.but hb1 (by omega)
 obtain ⟨c0,c1,c2⟩ := x1.cells
 obtain ⟨f0,f1,f2⟩ := x1.free
 have hr2 := hr1.other (r := w.heap.size + 1) (by omega) 0 (.string s1)
 have x2 := x1.set0 (.string s1)
 have z2 := z1.other (by omega) (r := w.heap.size + 1) 0 (.string s1)
 have hB2 := hB1.new (r := w.heap.size + 1) (by omega) 0 (.string s1)
 have H2 : Hid _ := hid (pKinds hr2 (sz_set _ _ _))
 generalize stO (runP nameP S) = S1 at *
 have hlt := x1.lt
 clear H1 hb1 b0 b1 hB1 hr1 x1 z1
 go_wp2_with fail
 refine Calls.mono H2.out ?_
 rintro e w3 ⟨rfl,hr3,hb3⟩
 have hB3 := hB2.trans hb3
 have x3 := x2.but hb3 (by omega)
 have z3 := z2.but hb3 (by omega)
 obtain ⟨c0,c1,c2⟩ := x3.cells
 obtain ⟨f0,f1,f2⟩ := x3.free
 have hr4 := hr3.other (r := w.heap.size + 1) (by omega) 1 (.int .i64 (oneB opsKind S1))
 have x4 := x3.set1 (.int .i64 (oneB opsKind S1))
 have z4 := z3.other (by omega) (r := w.heap.size + 1) 1 (.int .i64 (oneB opsKind S1))
 have hB4 := hB3.new (r := w.heap.size + 1) (by omega) 1 (.int .i64 (oneB opsKind S1))
 clear H2 hB2 hB3 x2 z2 hb3 hr3 hr2 x3 z3
 by_cases hk : oneB opsKind S1 = 0
 ·obtain ⟨e1,e2⟩ := choice_zero (w := w) (g := g) (d := 0) opsKind_pos hk
  have E2 : Hid _ := hid e2
  have HF : Hid _ := hid (pFail_any hr4 5 (by decide))
  rw [← e1] at HF
  have gk : (oneB opsKind S1 == 0) = true := by simpa using hk
  clear hk e1 e2 hr4
  generalize oneB opsKind S1 = kk at *
  go_wp2_with fail
  refine Calls.mono HF.out ?_
  rintro e w5 ⟨rfl,hr5,hb5⟩
  have hB5 := hB4.trans hb5
  have x5 := x4.but hb5 (by omega)
  have z5 := z4.but hb5 (by omega)
  clear HF hb5 hB4 x4 z4
  have HT := pTake_any hr5 ⟨#[114,101,102]⟩
  cases hb : takeB ⟨#[114,101,102]⟩ (stO (runP (choiceP opsKind) S1)) with
  | false =>
   obtain ⟨e3,e4⟩ := opt_false (z := (⟨#[]⟩ : ByteArray)) (P := nameP) hb
   rw [hb,takeB_false hb] at HT
   replace HT : Hid _ := hid HT
   have E3 : Hid _ := hid e3
   have E4 : Hid _ := hid e4
   clear hb e3 e4
   go_wp2_with fail
   refine Calls.mono HT.out ?_
   rintro e w6 ⟨rfl,hr6,hb6⟩
   have hB6 := hB5.trans hb6
   have x6 := x5.but hb6 (by omega)
   have z6 := z5.but hb6 (by omega)
   obtain ⟨c0,c1,c2⟩ := x6.cells
   obtain ⟨m0,m1,m2⟩ := z6.cells
   obtain ⟨n0,n1,n2⟩ := z6.free
   clear HT hb6 x6 z6
   go_wp2
   refine bodyPost_ret (v := .agg #[.string s1,.int .i64 kk,.string ⟨#[]⟩]) (by simp [results,Tryz.results98,go_sem,m0,m1,m2]) rfl (TeCol.fin hgl hB6 (by rw [HS.out,E3.out]; exact hr6) fun t r e => ?_)
   obtain ⟨n,q,k,q2,f,g1,g2,g3,rfl⟩ := HI.out t r e
   exact absurd g2 (E2.out k q2)
  | true =>
   have e3 := opt_true (z := (⟨#[]⟩ : ByteArray)) (P := nameP) hb
   rw [hb] at HT
   replace HT : Hid _ := hid HT
   have E3 : Hid _ := hid e3
   clear hb e3
   go_wp2_with fail
   refine Calls.mono HT.out ?_
   rintro e w6 ⟨rfl,hr6,hb6⟩
   have hB6 := hB5.trans hb6
   have x6 := x5.but hb6 (by omega)
   have z6 := z5.but hb6 (by omega)
   have HN : Hid _ := hid (pName_any hr6)
   clear HT hb6 hr6
   go_wp2_with fail
   refine Calls.mono HN.out ?_
   rintro e w7 ⟨s2,rfl,hb7,hr7,hu7⟩
   have x7 := x6.but hb7 (by omega)
   have z7 := z6.but hb7 (by omega)
   have hB7 := (hB6.trans hb7).new (r := w.heap.size + 1) (by omega) 2 (.string s2)
   have hr8 := hr7.other (r := w.heap.size + 1) (by omega) 2 (.string s2)
   obtain ⟨c0,c1,c2⟩ := x7.cells
   obtain ⟨f0,f1,f2⟩ := x7.free
   obtain ⟨m0,m1,m2⟩ := z7.cells
   obtain ⟨n0,n1,n2⟩ := z7.free
   clear HN hb7 x6 z6 x7 z7 hB6 hr7
   go_wp2
   refine bodyPost_ret (v := .agg #[.string s1,.int .i64 kk,.string s2]) (by simp [results,Tryz.results98,go_sem,m0,m1,m2]) rfl (TeCol.fin hgl hB7 (by rw [HS.out,E3.out]; exact hr8) fun t r e => ?_)
   obtain ⟨n,q,k,q2,f,g1,g2,g3,rfl⟩ := HI.out t r e
   exact absurd g2 (E2.out k q2)
 ·obtain ⟨e1,e2⟩ := choice_some opsKind_pos hk
  have E2 : Hid _ := hid e2
  rw [← e1] at hr4
  have gk : (oneB opsKind S1 == 0) = false := by simpa using hk
  clear hk e1 e2
  generalize oneB opsKind S1 = kk at *
  have HT := pTake_any hr4 ⟨#[114,101,102]⟩
  cases hb : takeB ⟨#[114,101,102]⟩ (stO (runP (choiceP opsKind) S1)) with
  | false =>
   obtain ⟨e3,e4⟩ := opt_false (z := (⟨#[]⟩ : ByteArray)) (P := nameP) hb
   rw [hb,takeB_false hb] at HT
   replace HT : Hid _ := hid HT
   have E3 : Hid _ := hid e3
   have E4 : Hid _ := hid e4
   clear hb e3 e4
   go_wp2_with fail
   refine Calls.mono HT.out ?_
   rintro e w6 ⟨rfl,hr6,hb6⟩
   have hB6 := hB4.trans hb6
   have x6 := x4.but hb6 (by omega)
   have z6 := z4.but hb6 (by omega)
   obtain ⟨c0,c1,c2⟩ := x6.cells
   obtain ⟨m0,m1,m2⟩ := z6.cells
   obtain ⟨n0,n1,n2⟩ := z6.free
   clear HT hb6 x6 z6
   go_wp2
   refine bodyPost_ret (v := .agg #[.string s1,.int .i64 kk,.string ⟨#[]⟩]) (by simp [results,Tryz.results98,go_sem,m0,m1,m2]) rfl (TeCol.fin hgl hB6 (by rw [HS.out,E3.out]; exact hr6) fun t r e => ?_)
   obtain ⟨n,q,k,q2,f,g1,g2,g3,rfl⟩ := HI.out t r e
   obtain rfl := E2.out k q2 g2
   rw [hu1 n q g1,E4.out f r g3]
  | true =>
   have e3 := opt_true (z := (⟨#[]⟩ : ByteArray)) (P := nameP) hb
   rw [hb] at HT
   replace HT : Hid _ := hid HT
   have E3 : Hid _ := hid e3
   clear hb e3
   go_wp2_with fail
   refine Calls.mono HT.out ?_
   rintro e w6 ⟨rfl,hr6,hb6⟩
   have hB6 := hB4.trans hb6
   have x6 := x4.but hb6 (by omega)
   have z6 := z4.but hb6 (by omega)
   have HN : Hid _ := hid (pName_any hr6)
   clear HT hb6 hr6
   go_wp2_with fail
   refine Calls.mono HN.out ?_
   rintro e w7 ⟨s2,rfl,hb7,hr7,hu7⟩
   have x7 := x6.but hb7 (by omega)
   have z7 := z6.but hb7 (by omega)
   have hB7 := (hB6.trans hb7).new (r := w.heap.size + 1) (by omega) 2 (.string s2)
   have hr8 := hr7.other (r := w.heap.size + 1) (by omega) 2 (.string s2)
   obtain ⟨c0,c1,c2⟩ := x7.cells
   obtain ⟨f0,f1,f2⟩ := x7.free
   obtain ⟨m0,m1,m2⟩ := z7.cells
   obtain ⟨n0,n1,n2⟩ := z7.free
   clear HN hb7 x6 z6 x7 z7 hB6 hr7
   go_wp2
   refine bodyPost_ret (v := .agg #[.string s1,.int .i64 kk,.string s2]) (by simp [results,Tryz.results98,go_sem,m0,m1,m2]) rfl (TeCol.fin hgl hB7 (by rw [HS.out,E3.out]; exact hr8) fun t r e => ?_)
   obtain ⟨n,q,k,q2,f,g1,g2,g3,rfl⟩ := HI.out t r e
   obtain rfl := E2.out k q2 g2
   rw [E3.out] at g3
   rw [hu1 n q g1,hu7 f r g3]
set_option maxRecDepth 100000 in
set_option maxHeartbeats 1000000 in
theorem pItemOf_any (k o : Int) (p : Pay) (sl : Value) (w : World) :
  Calls Tryz.prog 100 #[.int .i64 k,exV o p sl] w fun e w' => e = .returned (.agg #[.int .i64 k,.string p.2.2.2.1,.string p.2.2.2.2]) ∧ Below w.heap.size w w' := by
 obtain ⟨k1,i1,t1,b1,m1⟩ := p
 unfold exV
 go_enter Tryz.func100,Tryz.ntmps100
 go_wp2
 refine bodyPost_ret (v := .agg #[.int .i64 k,.string b1,.string m1]) (by simp [results,Tryz.results100,go_sem]) rfl ⟨rfl,?_⟩
 exact bal (bal (Below.refl _ _) _) _
theorem ex_item {Q : Nat → Prop} {w : World} {t : Tr} {o : Int} {p : Pay} {a : Option Addr} {n c : Nat} (h : Ex Q w t (exV o p (.slice a n c))) (k : Int) : itemC k t = (k,p.2.2.2.1,p.2.2.2.2) := by
 cases t with
 | nil => exact h.elim
 | node x op q l r =>
  obtain ⟨ao,n',c',hv,_⟩ := h
  simp only [exV,Value.agg.injEq,Array.mk.injEq,List.cons.injEq,Value.int.injEq,Value.string.injEq,true_and] at hv
  rw [itemC,hv.2.2.2.2.1,hv.2.2.2.2.2.1]
theorem item_count {S : Sa} (h : takeB ⟨#[99,111,117,110,116]⟩ S = true) : runP itemP S = runP (seqP (fun _ _ => ((1,⟨#[]⟩,⟨#[]⟩) : It)) (wantU ⟨#[40]⟩) (seqP (fun _ _ => ()) (wantU ⟨#[42]⟩) (wantU ⟨#[41]⟩))) (takeS ⟨#[99,111,117,110,116]⟩ S) := by
 match S with
 | .inl x => cases h
 | .inr ts =>
  have h' : isTk ⟨#[99,111,117,110,116]⟩ ts = true := h
  show itemP ts = runP _ (if isTk ⟨#[99,111,117,110,116]⟩ ts then .inr ts.tail else .inr ts)
  rw [itemP,if_pos h',if_pos h']
  rfl
theorem item_col {S : Sa} (h : takeB ⟨#[99,111,117,110,116]⟩ S = false) (h2 : oneB opsAgg S = 0) : runP itemP S = mapR (itemC 0) (runP columnP S) := by
 match S with
 | .inl x => rfl
 | .inr ts =>
  have h' : isTk ⟨#[99,111,117,110,116]⟩ ts = false := h
  have h2' : oneOf opsAgg ts = 0 := h2
  show itemP ts = _
  rw [itemP,if_neg (by rw [h']; simp),if_pos h2']
  rfl
theorem opsAgg_pos : ∀ c ∈ opsAgg,0 < c.2 := by decide
theorem item_agg {S : Sa} (h : takeB ⟨#[99,111,117,110,116]⟩ S = false) (h2 : oneB opsAgg S ≠ 0) : runP itemP S = runP (seqP (fun _ x => itemC (oneB opsAgg S) x) (wantU ⟨#[40]⟩) (seqP (fun x _ => x) columnP (wantU ⟨#[41]⟩))) (oneS opsAgg S) := by
 match S with
 | .inl x => rfl
 | .inr ts =>
  have h' : isTk ⟨#[99,111,117,110,116]⟩ ts = false := h
  have h2' : oneOf opsAgg ts ≠ 0 := h2
  rw [(oneOf_some opsAgg_pos h2').1]
  show itemP ts = _
  rw [itemP,if_neg (by rw [h']; simp),if_neg h2']
  rfl
theorem opsAgg_cw (w : World) : Cw (w.alloc (.cells #[.string ⟨#[115,117,109]⟩,.int .i64 2,.string ⟨#[109,105,110]⟩,.int .i64 3,.string ⟨#[109,97,120]⟩,.int .i64 4] 128)) w.heap.size opsAgg := by
 intro i hi
 have hi' : i < 3 := hi
 match i,hi' with
 | 0,_ => simp [go_sem,opsAgg]
 | 1,_ => simp [go_sem,opsAgg]
 | 2,_ => simp [go_sem,opsAgg]
theorem pAggs {g : Nat} {S : Sa} {d : Nat} {w : World} (h : Rp w g S d) {b : Nat} (hb : w.heap.size = b := by rfl) :
  Calls Tryz.prog 99 #[.pointer (some ⟨g,0,none⟩),.slice (some ⟨b,0,none⟩) 3 3] (w.alloc (.cells #[.string ⟨#[115,117,109]⟩,.int .i64 2,.string ⟨#[109,105,110]⟩,.int .i64 3,.string ⟨#[109,97,120]⟩,.int .i64 4] 128)) fun x w' => x = .returned (.int .i64 (oneB opsAgg S)) ∧ Rp w' g (oneS opsAgg S) d ∧ But g w w' := by
 subst hb
 have hgl := h.lt
 refine Calls.mono (pOneOf_any (b := w.heap.size) (h.alloc (.cells #[.string ⟨#[115,117,109]⟩,.int .i64 2,.string ⟨#[109,105,110]⟩,.int .i64 3,.string ⟨#[109,97,120]⟩,.int .i64 4] 128)) opsAgg (by decide) (by omega) (opsAgg_cw w)) ?_
 rintro x w' ⟨h1,h2,h3⟩
 exact ⟨h1,h2,h3.behind⟩
theorem pWant3 {g : Nat} {S : Sa} {d : Nat} {w : World} (h : Rp w g S d) (s1 s2 s3 : ByteArray) {b : Nat} (hb : w.heap.size = b := by rfl) :
  Calls Tryz.prog 75 #[.pointer (some ⟨g,0,none⟩),.slice (some ⟨b,0,none⟩) 3 3] (w.alloc (.cells #[.string s1,.string s2,.string s3] 9)) fun x w' => x = .returned (.tuple #[]) ∧ Rp w' g (wantS s3 (wantS s2 (wantS s1 S))) d ∧ But g w w' := by
 subst hb
 have hgl := h.lt
 refine Calls.mono (pWant_any (b := w.heap.size) (h.alloc (.cells #[.string s1,.string s2,.string s3] 9)) [s1,s2,s3] (by simp) (by omega) (by
  intro i hi
  have hi' : i < 3 := hi
  match i,hi' with
  | 0,_ => simp [go_sem]
  | 1,_ => simp [go_sem]
  | 2,_ => simp [go_sem])) ?_
 rintro x w' ⟨h1,h2,h3⟩
 exact ⟨h1,h2,h3.behind⟩
set_option maxRecDepth 100000 in
set_option maxHeartbeats 2000000 in
theorem pItem_any {g : Nat} {S : Sa} {w : World} (h : Rp w g S 0) : Calls Tryz.prog 77 #[.pointer (some ⟨g,0,none⟩)] w (TeItem g w (runP itemP S)) := by
 have hgl := h.lt
 have b0 := Bt.new w 80 (.int .i64 0) (.string ⟨#[]⟩) (.string ⟨#[]⟩)
 have HT := pTake_any (h.alloc (.cells #[.int .i64 0,.string ⟨#[]⟩,.string ⟨#[]⟩] 80)) ⟨#[99,111,117,110,116]⟩
 cases hb : takeB ⟨#[99,111,117,110,116]⟩ S with
 | true =>
  have e1 := item_count hb
  have e2 := seq_st (fun _ _ => ((1,⟨#[]⟩,⟨#[]⟩) : It)) (wantU ⟨#[40]⟩) (seqP (fun _ _ => ()) (wantU ⟨#[42]⟩) (wantU ⟨#[41]⟩)) (takeS ⟨#[99,111,117,110,116]⟩ S)
  rw [← e1,seq_st,wantU_st,wantU_st,wantU_st] at e2
  have E1 : Hid _ := hid e1
  have E2 : Hid _ := hid e2
  rw [hb] at HT
  replace HT : Hid _ := hid HT
  generalize runP itemP S = R at *
  clear hb e1 e2 h
  go_enter Tryz.func77,Tryz.ntmps77
  go_wp2_with fail
  refine Calls.mono HT.out ?_
  rintro e w1 ⟨rfl,hr1,hb1⟩
  have hB1 : But g w w1 := hb1.behind
  have z1 := b0.but hb1 (by omega)
  have H2 : Hid _ := hid (pWant3 hr1 ⟨#[40]⟩ ⟨#[42]⟩ ⟨#[41]⟩)
  clear HT hb1 b0 hr1
  go_wp2_with fail
  refine Calls.mono H2.out ?_
  rintro e w2 ⟨rfl,hr2,hb2⟩
  have hB2 := hB1.trans hb2
  have z2 := z1.but hb2 (by omega)
  obtain ⟨m0,m1,m2⟩ := z2.cells
  obtain ⟨n0,n1,n2⟩ := z2.free
  clear H2 hb2 z1 z2 hB1
  go_wp2
  refine bodyPost_ret (v := .agg #[.int .i64 1,.string ⟨#[]⟩,.string ⟨#[]⟩]) (by simp [results,Tryz.results77,go_sem,m0,m1,m2]) rfl (TeItem.fin hgl hB2 (by rw [E2.out]; exact hr2) fun t r e => ?_)
  rw [E1.out] at e
  obtain ⟨_,_,_,_,_,rfl⟩ := seq_inr e
  rfl
 | false =>
  rw [hb,takeB_false hb] at HT
  replace HT : Hid _ := hid HT
  have E0 : Hid _ := hid (item_col hb)
  have E9 : Hid _ := hid (item_agg hb)
  generalize runP itemP S = R at *
  clear hb h
  go_enter Tryz.func77,Tryz.ntmps77
  go_wp2_with fail
  refine Calls.mono HT.out ?_
  rintro e w1 ⟨rfl,hr1,hb1⟩
  have hB1 : But g w w1 := hb1.behind
  have z1 := b0.but hb1 (by omega)
  have H2 : Hid _ := hid (pAggs hr1)
  clear HT hb1 b0 hr1
  go_wp2_with fail
  refine Calls.mono H2.out ?_
  rintro e w2 ⟨rfl,hr2,hb2⟩
  have hB2 := hB1.trans hb2
  have z2 := z1.but hb2 (by omega)
  clear H2 hb2 z1 hB1
  by_cases hk : oneB opsAgg S = 0
  ·have E1 : Hid _ := hid (E0.out hk)
   have hS : oneS opsAgg S = S := by
    match S,hk with
    | .inl x,_ => rfl
    | .inr ts,hk => exact oneOf_zero opsAgg_pos hk
   rw [hS] at hr2
   rw [hk]
   have HC : Hid _ := hid (pColumn_any hr2)
   clear E0 E9 hk hS
   go_wp2_with fail
   refine Calls.mono HC.out ?_
   rintro e w3 ⟨o3,p3,a3,l3,c3,rfl,hb3,hr3,hx3⟩
   have HI : Hid _ := hid (pItemOf_any 0 o3 p3 (.slice a3 l3 c3) w3)
   have hB3 := hB2.trans hb3
   have z3 := z2.but hb3 (by omega)
   unfold exV at HI ⊢
   clear HC hb3 z2 hB2 hr2
   go_wp2_with fail
   refine Calls.mono HI.out ?_
   rintro e w4 ⟨rfl,hb4⟩
   have hB4 := hB3.later hb4
   have hr4 := hr3.later hb4
   have z4 := z3.later hb4
   obtain ⟨m0,m1,m2⟩ := z4.cells
   obtain ⟨n0,n1,n2⟩ := z4.free
   clear HI hb4 z3 z4 hB3
   go_wp2
   refine bodyPost_ret (v := .agg #[.int .i64 0,.string p3.2.2.2.1,.string p3.2.2.2.2]) (by simp [results,Tryz.results77,go_sem,m0,m1,m2]) rfl (TeItem.fin hgl hB4 (by rw [E1.out,stO_mapR]; exact hr4) fun t r e => ?_)
   rw [E1.out] at e
   obtain ⟨u,e2,rfl⟩ := mapR_inr e
   rw [ex_item (hx3 u r e2)]
  ·have e1 := E9.out hk
   have e2 := seq_st (fun _ x => itemC (oneB opsAgg S) x) (wantU ⟨#[40]⟩) (seqP (fun x _ => x) columnP (wantU ⟨#[41]⟩)) (oneS opsAgg S)
   rw [← e1,seq_st,wantU_st,wantU_st] at e2
   have E1 : Hid _ := hid e1
   have E2 : Hid _ := hid e2
   have gk : (oneB opsAgg S == 0) = false := by simpa using hk
   have H3 : Hid _ := hid (pWant1 hr2 ⟨#[40]⟩)
   clear E0 E9 hk e1 e2 hr2
   generalize oneB opsAgg S = kk at *
   go_wp2_with fail
   refine Calls.mono H3.out ?_
   rintro e w3 ⟨rfl,hr3,hb3⟩
   have hB3 := hB2.trans hb3
   have z3 := z2.but hb3 (by omega)
   have HC : Hid _ := hid (pColumn_any hr3)
   clear H3 hb3 z2 hB2 hr3
   go_wp2_with fail
   refine Calls.mono HC.out ?_
   rintro e w4 ⟨o4,p4,a4,l4,c4,rfl,hb4,hr4,hx4⟩
   have HI : Hid _ := hid (pItemOf_any kk o4 p4 (.slice a4 l4 c4) w4)
   have hB4 := hB3.trans hb4
   have z4 := z3.but hb4 (by omega)
   unfold exV at HI ⊢
   clear HC hb4 z3 hB3
   go_wp2_with fail
   refine Calls.mono HI.out ?_
   rintro e w5 ⟨rfl,hb5⟩
   have hB5 := (hB4.later hb5).alloc (.cells #[.int .i64 kk,.string p4.2.2.2.1,.string p4.2.2.2.2] 80)
   have hr5 := (hr4.later hb5).alloc (.cells #[.int .i64 kk,.string p4.2.2.2.1,.string p4.2.2.2.2] 80)
   have z5 := (z4.later hb5).later (bal (Below.refl _ w5) (.cells #[.int .i64 kk,.string p4.2.2.2.1,.string p4.2.2.2.2] 80))
   have x5 := Bt.new w5 80 (.int .i64 kk) (.string p4.2.2.2.1) (.string p4.2.2.2.2)
   have hsz : w.heap.size < w5.heap.size := (z4.later hb5).lt
   have H6 : Hid _ := hid (pWant1 hr5 ⟨#[41]⟩ (World.size_alloc _ _))
   clear HI hb5 z4 hB4 hr4 hr5
   go_wp2_with fail
   refine Calls.mono H6.out ?_
   rintro e w6 ⟨rfl,hr6,hb6⟩
   have hB6 := hB5.trans hb6
   have z6 := z5.but hb6 (by omega)
   have x6 := x5.but hb6 (by omega)
   obtain ⟨c0,c1,c2⟩ := x6.cells
   obtain ⟨m0,m1,m2⟩ := z6.cells
   obtain ⟨n0,n1,n2⟩ := z6.free
   clear H6 hb6 z5 x5 x6 z6 hB5
   go_wp2
   refine bodyPost_ret (v := .agg #[.int .i64 kk,.string p4.2.2.2.1,.string p4.2.2.2.2]) (by simp [results,Tryz.results77,go_sem,m0,m1,m2]) rfl (TeItem.fin hgl hB6 (by rw [E2.out]; exact hr6) fun t r e => ?_)
   rw [E1.out] at e
   obtain ⟨_,x,q,_,h2,rfl⟩ := seq_inr e
   obtain ⟨x',_,q',h3,_,rfl⟩ := seq_inr h2
   rw [wantU_st] at h3
   rw [ex_item (hx4 _ _ h3)]
theorem on_st (S : Sa) : stO (runP onP S) = stO (runP columnP (wantS ⟨#[61]⟩ (stO (runP columnP (wantS ⟨#[111,110]⟩ S))))) := by rw [onP,seq_st,wantU_st,seq_st,seq_st,wantU_st]
theorem on_inr {S : Sa} {l : List Tr} {r : List Tk} (h : runP onP S = .inr (l,r)) : ∃ a b q,runP columnP (wantS ⟨#[111,110]⟩ S) = .inr (a,q) ∧ runP columnP (wantS ⟨#[61]⟩ (stO (runP columnP (wantS ⟨#[111,110]⟩ S)))) = .inr (b,r) ∧ l = [a,b] := by
 obtain ⟨_,l',q,_,h2,rfl⟩ := seq_inr h
 obtain ⟨a,b,q2,h3,h4,rfl⟩ := seq_inr h2
 obtain ⟨_,b',q3,_,h6,rfl⟩ := seq_inr h4
 rw [wantU_st] at h3 h6
 rw [wantU_st] at h6
 exact ⟨a,b,q2,h3,h6,rfl⟩
theorem row_two (w : World) (t u : Tr) (o : Int) (p : Pay) (a : Option Addr) (m c : Nat) (o' : Int) (p' : Pay) (a' : Option Addr) (m' c' : Nat) (Q : Nat → Prop) (hq : Q w.heap.size) (h : Ex Q w t (exV o p (.slice a m c))) (k : Ex Q w u (exV o' p' (.slice a' m' c'))) :
  RowIs eExpr Q (w.alloc (.cells #[.int .i64 o,.int .i64 p.1,.int .i64 p.2.1,.string p.2.2.1,.string p.2.2.2.1,.string p.2.2.2.2,.slice a m c,.int .i64 o',.int .i64 p'.1,.int .i64 p'.2.1,.string p'.2.2.1,.string p'.2.2.2.1,.string p'.2.2.2.2,.slice a' m' c'] 60)) (.slice (some ⟨w.heap.size,0,none⟩) 2 2) [t,u] := by
 refine ⟨_,2,2,rfl,rfl,Nat.le_refl _,by omega,fun _ => ⟨w.heap.size,0,rfl,hq,fun i hi => ?_⟩⟩
 have hi' : i < 2 := hi
 match i,hi' with
 | 0,_ =>
  refine ⟨exC o p (.slice a m c),⟨o,p,a,m,c,rfl,h.later (bal (Below.refl _ w) _)⟩,rfl,fun j hj => ?_⟩
  have hj' : j < 7 := hj
  match j,hj' with
  | 0,_ => exact cell_new w _ _ _ 0
  | 1,_ => exact cell_new w _ _ _ 1
  | 2,_ => exact cell_new w _ _ _ 2
  | 3,_ => exact cell_new w _ _ _ 3
  | 4,_ => exact cell_new w _ _ _ 4
  | 5,_ => exact cell_new w _ _ _ 5
  | 6,_ => exact cell_new w _ _ _ 6
 | 1,_ =>
  refine ⟨exC o' p' (.slice a' m' c'),⟨o',p',a',m',c',rfl,k.later (bal (Below.refl _ w) _)⟩,rfl,fun j hj => ?_⟩
  have hj' : j < 7 := hj
  match j,hj' with
  | 0,_ => exact cell_new w _ _ _ 7
  | 1,_ => exact cell_new w _ _ _ 8
  | 2,_ => exact cell_new w _ _ _ 9
  | 3,_ => exact cell_new w _ _ _ 10
  | 4,_ => exact cell_new w _ _ _ 11
  | 5,_ => exact cell_new w _ _ _ 12
  | 6,_ => exact cell_new w _ _ _ 13
set_option maxRecDepth 100000 in
set_option maxHeartbeats 2000000 in
theorem pOn_any {g : Nat} {S : Sa} {w : World} (h : Rp w g S 0) : Calls Tryz.prog 78 #[.pointer (some ⟨g,0,none⟩)] w (TeL eExpr g w (runP onP S)) := by
 have hgl := h.lt
 have H1 : Hid _ := hid (pWant1 h ⟨#[111,110]⟩)
 have ES : Hid _ := hid (on_st S)
 have EI : Hid _ := hid fun l r (e : runP onP S = .inr (l,r)) => on_inr e
 generalize runP onP S = R at *
 clear h
 go_enter Tryz.func78,Tryz.ntmps78
 go_wp2_with fail
 refine Calls.mono H1.out ?_
 rintro e w1 ⟨rfl,hr1,hb1⟩
 have hsz1 := hb1.size
 have H2 : Hid _ := hid (pColumn_any hr1)
 clear H1 hr1
 go_wp2_with fail
 refine Calls.mono H2.out ?_
 rintro e w2 ⟨o2,p2,a2,l2,c2,rfl,hb2,hr2,hx2⟩
 have hB2 := hb1.trans hb2
 have hsz2 := hb2.size
 have hr3 := hr2.alloc (.cells #[.int .i64 o2,.int .i64 p2.1,.int .i64 p2.2.1,.string p2.2.2.1,.string p2.2.2.2.1,.string p2.2.2.2.2,.slice a2 l2 c2] 60)
 have hB3 := hB2.alloc (.cells #[.int .i64 o2,.int .i64 p2.1,.int .i64 p2.2.1,.string p2.2.2.1,.string p2.2.2.2.1,.string p2.2.2.2.2,.slice a2 l2 c2] 60)
 have x3 := Be.new w2 o2 p2 (.slice a2 l2 c2)
 have HX3 : Hid (∀ t r,runP columnP (wantS ⟨#[111,110]⟩ S) = .inr (t,r) → Ex (fun b => w.heap.size ≤ b) (w2.alloc (.cells #[.int .i64 o2,.int .i64 p2.1,.int .i64 p2.2.1,.string p2.2.2.1,.string p2.2.2.2.1,.string p2.2.2.2.2,.slice a2 l2 c2] 60)) t (exV o2 p2 (.slice a2 l2 c2))) :=
  hid fun t r e => ((hx2 t r e).mono fun k hk _ => by omega).later (bal (Below.refl _ w2) _)
 have H4 : Hid _ := hid (pWant1 hr3 ⟨#[61]⟩ (World.size_alloc _ _))
 have hq : w.heap.size ≤ w2.heap.size := by omega
 clear H2 hr2 hx2 hb1 hb2 hB2 hr3
 unfold exV
 go_wp2_with fail
 refine Calls.mono H4.out ?_
 rintro e w4 ⟨rfl,hr4,hb4⟩
 have hB4 := hB3.trans hb4
 have x4 := x3.but hb4 (by omega)
 have hsz4 : w2.heap.size < w4.heap.size := by have := hb4.size; simp at this; omega
 have HX4 : Hid _ := hid fun t r e => (HX3.out t r e).but hb4 (by omega)
 obtain ⟨k0,k1,k2,k3,k4,k5,k6⟩ := x4.cells
 rw [Nat.zero_add] at k1 k2 k3 k4 k5 k6
 generalize w2.heap.size = q at *
 have HC : Hid _ := hid (pColumn_any hr4.drew)
 have hxd : Be w4.drew q o2 p2 (.slice a2 l2 c2) := x4.keep rfl
 have hBd : But g w w4.drew := hB4.dr
 have hgd : w4.drew.heap.size = w4.heap.size := rfl
 clear H4 hb4 HX3 x3 hB3
 go_upto_region 4 with fail
 go_region_with (first
  | (refine Calls.mono HC.out ?_; rintro e z1 ⟨o5,p5,a5,l5,c5,rfl,hb1,hr1,hx1⟩; have y1 := hxd.but hb1 (by omega); obtain ⟨j0,j1,j2,j3,j4,j5,j6⟩ := y1.cells; rw [Nat.zero_add] at j1 j2 j3 j4 j5 j6; unfold exV))
 all_goals
  have hB5 := hBd.trans hb1
  have hz1 := hb1.size
  have HN : Hid (∀ l r,R = .inr (l,r) → ∃ t u,l = [t,u] ∧ Ex (fun b => w.heap.size ≤ b) z1 t (exV o2 p2 (.slice a2 l2 c2)) ∧ Ex (fun b => w.heap.size ≤ b) z1 u (exV o5 p5 (.slice a5 l5 c5))) := hid fun l r e => by
   obtain ⟨t,u,q',e1,e2,rfl⟩ := EI.out l r e
   exact ⟨t,u,rfl,(Ex.keep (w := w4) (w' := w4.drew) (fun _ _ _ => rfl) (HX4.out t q' e1)).but hb1 (by omega),(hx1 u r e2).mono fun k hk _ => by omega⟩
  clear HC HX4 hxd hBd y1 hb1 hx1 x4
  go_wp2
  go_ret
  refine ⟨_,2,2,rfl,hB5.alloc _,by rw [ES.out]; exact hr1.alloc _,fun l r e => ?_⟩
  obtain ⟨t,u,rfl,h1,h2⟩ := HN.out l r e
  exact row_two z1 t u o2 p2 a2 l2 c2 o5 p5 a5 l5 c5 _ (by omega) h1 h2
theorem order_st (S : Sa) : stO (runP orderP S) = stO (runP columnP (wantS ⟨#[98,121]⟩ S)) := by rw [orderP,seq_st,wantU_st,map_run,stO_mapR]
theorem order_inr {S : Sa} {l : List Tr} {r : List Tk} (h : runP orderP S = .inr (l,r)) : ∃ a,runP columnP (wantS ⟨#[98,121]⟩ S) = .inr (a,r) ∧ l = [a] := by
 obtain ⟨_,l',q,_,h2,rfl⟩ := seq_inr h
 rw [wantU_st,map_run] at h2
 obtain ⟨a,h3,h4⟩ := mapR_inr h2
 exact ⟨a,h3,h4⟩
set_option maxRecDepth 100000 in
set_option maxHeartbeats 2000000 in
theorem pOrder_any {g : Nat} {S : Sa} {w : World} (h : Rp w g S 0) : Calls Tryz.prog 81 #[.pointer (some ⟨g,0,none⟩)] w (TeL eExpr g w (runP orderP S)) := by
 have hgl := h.lt
 have H1 : Hid _ := hid (pWant1 h ⟨#[98,121]⟩)
 have ES : Hid _ := hid (order_st S)
 have EI : Hid _ := hid fun l r (e : runP orderP S = .inr (l,r)) => order_inr e
 generalize runP orderP S = R at *
 clear h
 go_enter Tryz.func81,Tryz.ntmps81
 go_wp2_with fail
 refine Calls.mono H1.out ?_
 rintro e w1 ⟨rfl,hr1,hb1⟩
 have hsz1 := hb1.size
 have H2 : Hid _ := hid (pColumn_any hr1)
 clear H1 hr1
 go_wp2_with fail
 refine Calls.mono H2.out ?_
 rintro e w2 ⟨o2,p2,a2,l2,c2,rfl,hb2,hr2,hx2⟩
 have hB2 := hb1.trans hb2
 have hsz2 := hb2.size
 clear H2 hb1 hb2
 unfold exV
 go_wp2
 go_ret
 refine ⟨_,1,1,rfl,hB2.alloc _,by rw [ES.out]; exact hr2.alloc _,fun l r e => ?_⟩
 obtain ⟨u,e2,rfl⟩ := EI.out l r e
 exact row_one w2 u o2 p2 a2 l2 c2 _ (by omega) ((hx2 u r e2).mono fun b hb _ => by omega)
end Go.Proofs.YtfopfhlohihihaaGreat
