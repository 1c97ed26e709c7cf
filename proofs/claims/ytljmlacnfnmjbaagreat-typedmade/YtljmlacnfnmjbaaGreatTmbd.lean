import Derived.Test.YtljmlacnfnmjbaaGreatTmba
namespace Go.Proofs.YtljmlacnfnmjbaaGreat
open Go.RowKit
set_option linter.unusedVariables false
set_option linter.unusedSimpArgs false

def insL (V : List (Pg × Tg)) (L : List Co) : List Int := List.zipWith (fun x (c : Co) => fitsP [] x c.2.1) V L
def insT (t : Tbl) (m : Sq) : Int := if m.values.length ≠ t.cols.length then 7 else erL (insL m.values t.cols)
def insP (T : List Tbl) (m : Sq) : Int := match lookT T m.table with | none => 9 | some t => insT t m
theorem insL_len {V : List (Pg × Tg)} {L : List Co} (h : V.length = L.length) : (insL V L).length = V.length := by unfold insL; rw [List.length_zipWith]; omega
set_option maxRecDepth 100000 in
/-- What the fold over an insert's values tells. -/
theorem insFold {V : List (Pg × Tg)} {L : List Co} (hV : V.length ≤ 500) (hVL : V.length = L.length) {w : World} {ao : Option Addr} {n c : Nat} (h : RowIs eG (fun _ => True) w (.slice ao n c) V) {R : Nat → Prop} {a0 : Option Addr} {m0 d0 : Nat} (hL : RowIs eCol R w (.slice a0 m0 d0) L) {bt : Nat} (hs : w.cell? ⟨bt,0,none⟩ = some (.slice none 0 0)) :
  Calls Tryz.prog 59 #[.slice ao n c,.slice a0 m0 d0,.func (.func 60) #[] #[.pointer (some ⟨bt,0,none⟩)]] w fun en w' => ∃ a2 m2 d2,en = .returned (.tuple #[.slice a2 m2 d2,.int .i64 (erL (insL V L))]) ∧ Below w.heap.size w w' := by
 have hcf : ∀ args w',(callFunc 60 args).run Tryz.prog w' = .ok (.enter 60 args) w' := fun args w' => by rfl
 have HE : erO (fun i => ((insL V L)[i]?).getD 0) V.length = erL (insL V L) := by
  have := erO_list (l := insL V L) (er := fun i => ((insL V L)[i]?).getD 0) fun i hi => by rw [List.getElem?_eq_getElem hi]; rfl
  rwa [insL_len hVL] at this
 have HC := foldExCos hV h (caps := #[.pointer (some ⟨bt,0,none⟩)]) hcf (fun i => ((insL V L)[i]?).getD 0) (fun i w' a m d => Below w.heap.size w w' ∧ RowIs eCol R w' (.slice a m d) (L.drop i))
  (fun i w' a m d hI => hI.1) (fun i w' a m d o hI => ⟨bal hI.1 o,hI.2.keep (by decide) fun b _ hl => (bal (Below.refl _ _) o).block b hl⟩) (a0 := a0) (m0 := m0) (d0 := d0) ⟨Below.refl _ _,hL⟩
  (fun i hi w' a m d cs hI hx => by
   have hil : i < L.length := by omega
   have hd : L.drop i = L[i] :: L.drop (i + 1) := List.drop_eq_getElem_cons hil
   have hI2 := hI.2
   rw [hd] at hI2
   refine Calls.mono (insert1_any V[i] (cell_later hI.1 hs) hI2 hx) ?_
   rintro en w'' ⟨a2,m2,d2,rfl,hb2,hr2⟩
   refine ⟨a2,m2,d2,?_,Below.on hI.1 hb2,fun _ => ⟨Below.on hI.1 hb2,hr2⟩⟩
   rw [List.getElem?_eq_getElem (by rw [insL_len hVL]; exact hi)]
   simp [insL])
 rw [HE] at HC
 refine Calls.mono HC ?_
 rintro en w' ⟨a2,m2,d2,rfl,hb,-⟩
 exact ⟨a2,m2,d2,rfl,hb⟩
set_option maxRecDepth 100000 in
set_option maxHeartbeats 4000000 in
theorem mayInsert_any {T : List Tbl} {m : Sq} (hB : SqB m) {w : World} {ta : Option Addr} {tn tc : Nat} {vb : Option Addr} {vm vd : Nat} (hT : IsT w T ta tn tc) {s : Sv} (hm : IsQ w m s) :
  Calls Tryz.prog 29 #[.agg #[.slice ta tn tc,.slice vb vm vd],stV s] w fun en w' => en = .returned (.int .i64 (insP T m)) ∧ Below w.heap.size w w' := by
 have hw := bal (bal (Below.refl w.heap.size w) (.cells #[.slice ta tn tc,.slice vb vm vd] 38)) (svO s)
 have bs := (Bk.new w (.cells #[.slice ta tn tc,.slice vb vm vd] 38)).later (bal (Below.refl _ _) (svO s))
 have bq := Bk.new (w.alloc (.cells #[.slice ta tn tc,.slice vb vm vd] 38)) (svO s)
 rw [World.size_alloc] at bq
 generalize hW : (w.alloc (.cells #[.slice ta tn tc,.slice vb vm vd] 38)).alloc (svO s) = W at hw bs bq
 replace hT := hT.later hw
 replace hm := hm.later hw
 have y0 := bs.cell 0
 have y1 := bs.cell 1
 have z0 := bq.cell 0
 have z1 := bq.cell 1
 have z2 := bq.cell 2
 have z3 := bq.cell 3
 have z4 := bq.cell 4
 have z5 := bq.cell 5
 have z6 := bq.cell 6
 have z7 := bq.cell 7
 have z8 := bq.cell 8
 have z9 := bq.cell 9
 have z10 := bq.cell 10
 have z11 := bq.cell 11
 have z12 := bq.cell 12
 simp only [List.getElem?_toArray,List.getElem?_cons_zero,List.getElem?_cons_succ] at y0 y1 z0 z1 z2 z3 z4 z5 z6 z7 z8 z9 z10 z11 z12
 have HTb : Hid _ := hid (table_any hT.bd m.table hT.row vb vm vd)
 have HU : Hid (insP T m = match lookT T m.table with | none => 9 | some t => insT t m) := hid rfl
 have HQ : Hid (∀ w',Below W.heap.size W w' → RowIs eG (fun _ => True) w' (.slice s.va.1 s.va.2.1 s.va.2.2) m.values) := hid fun w' hb => (hm.later hb).va
 obtain ⟨l5a,l5b,l5c⟩ := hm.va.lens
 have hV5 := hB.va
 have ktb := hm.tb
 generalize insP T m = R at *
 generalize lookT T m.table = L at *
 obtain ⟨sk,stb,snm,sco,sta,⟨va0,va1,va2⟩,sit,sjn,son,swh,sod,sds,sinn⟩ := s
 dsimp only [stV,svO] at *
 subst ktb
 clear hT hm bs bq hB
 go_enter Tryz.func29,Tryz.ntmps29
 go_upto_region 1 with fail
 go_wp2_with fail
 refine Calls.mono HTb.out ?_
 rintro e w2 ⟨sn,a1,n1,k1,a2,n2,k2,is,rfl,his,hsome,hnone,hb2⟩
 have HSo : Hid _ := hid hsome
 have hB2 := Below.on hw hb2
 clear HTb hnone hsome y0 y1
 cases L with
 | none =>
  have hi : is = false := his
  subst hi
  obtain rfl : R = 9 := HU.out
  clear HSo HU his HQ
  go_wp2
  go_ret
  exact ⟨rfl,bal hB2 _⟩
 | some t =>
  have hi : is = true := his
  subst hi
  have HRu : Hid (R = insT t m) := hid HU.out
  obtain ⟨rfl,hr1,hr2⟩ := HSo.out t rfl
  have hw3 := bal (Below.refl w2.heap.size w2) (.cells #[.string t.name,.slice a1 n1 k1,.slice a2 n2 k2] 58)
  have bx := Bk.new w2 (.cells #[.string t.name,.slice a1 n1 k1,.slice a2 n2 k2] 58)
  have hr3 : RowIs eCol _ (w2.alloc (.cells #[.string t.name,.slice a1 n1 k1,.slice a2 n2 k2] 58)) (.slice a1 n1 k1) t.cols := hr1.keep (by decide) fun b _ hl => hw3.block b hl
  have hWB := Below.on hb2 hw3
  replace hB2 := Below.on hB2 hw3
  have z5' := cell_later hWB z5
  obtain ⟨c1,c2,c3⟩ := hr3.lens
  clear HSo his hr1 hr2 HU hb2 hw3 z0 z1 z2 z3 z4 z5 z6 z7 z8 z9 z10 z11 z12
  go_upto_region 2 with fail
  generalize w2.alloc (.cells #[.string t.name,.slice a1 n1 k1,.slice a2 n2 k2] 58) = W2 at *
  have d1 := bx.cell 1
  simp only [List.getElem?_toArray,List.getElem?_cons_zero,List.getElem?_cons_succ] at d1
  clear bx
  generalize w2.heap.size = p at *
  by_cases hl : va1 = n1
  ·have hl' : m.values.length = t.cols.length := by rw [l5a,c1,hl]
   have HR2 : Hid (R = erL (insL m.values t.cols)) := hid (by rw [HRu.out]; unfold insT; rw [if_neg (by simpa using hl')])
   have hw4 := bal (Below.refl W2.heap.size W2) (.cells #[.slice none 0 0] 70)
   have HFo : Hid _ := hid (insFold hV5 hl' (HQ.out _ (Below.on hWB hw4)) (hr3.keep (by decide) fun b _ hl => hw4.block b hl) (cell_new W2 #[.slice none 0 0] 70 (0,0) 0))
   have z5b := cell_later hw4 z5'
   have d1' := cell_later hw4 d1
   rw [← HR2.out] at HFo
   subst hl
   clear HQ hr3 HRu HR2 l5a c1 hl'
   go_wp2_with fail
   refine Calls.mono HFo.out ?_
   rintro e w4 ⟨a4,n4,c4,rfl,hb4⟩
   clear HFo
   go_wp2
   go_ret
   exact ⟨rfl,Below.on hB2 (Below.on hw4 hb4)⟩
  ·have g1 : ¬ (va1 : Int) = n1 := by omega
   have q1 : decide ((va1 : Int) = n1) = false := by simpa using g1
   have q2 : ((va1 : Int) != n1) = true := by simpa using g1
   have hR7 : R = 7 := by rw [HRu.out]; unfold insT; rw [if_pos (by omega)]
   subst hR7
   clear HQ hr3 HRu l5a c1
   go_wp2
   go_ret
   exact ⟨rfl,hB2⟩

end Go.Proofs.YtljmlacnfnmjbaaGreat
