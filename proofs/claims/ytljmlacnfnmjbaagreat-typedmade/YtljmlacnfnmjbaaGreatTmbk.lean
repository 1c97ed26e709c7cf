import Derived.Test.YtljmlacnfnmjbaaGreatTmbj
namespace Go.Proofs.YtljmlacnfnmjbaaGreat
open Go.RowKit
set_option linter.unusedVariables false
set_option linter.unusedSimpArgs false

theorem OwnR.itT2 {t u : Tbl} {B : Nat} {w : World} {a : Option Addr} {m d : Nat} (h : OwnR 66 3 B w (.slice a m d) ((t.cols.map fun x => itC (0,t.name,x.1)) ++ (u.cols.map fun x => itC (0,u.name,x.1)))) : RowIs eItem (fun _ => True) w (.slice a m d) (itT t ++ itT u) :=
 own_items (l := itT t ++ itT u) (by rw [itT,itT,List.map_append,List.map_map,List.map_map]; exact h)
theorem OwnR.kiT2 {t u : Tbl} {B : Nat} {w : World} {a : Option Addr} {m d : Nat} (h : OwnR 3 1 B w (.slice a m d) ((t.cols.map fun x => [.int .i64 x.2.1]) ++ (u.cols.map fun x => [.int .i64 x.2.1]))) : RowIs eInt (fun _ => True) w (.slice a m d) (kiT t ++ kiT u) :=
 own_ints (l := kiT t ++ kiT u) (by rw [kiT,kiT,List.map_append,List.map_map,List.map_map]; exact h)
theorem one_itT (u : Tbl) : ∀ v ∈ (u.cols.map fun x => itC (0,u.name,x.1)).flatten,v.oneCell' = true := by
 intro v hv
 rw [List.mem_flatten] at hv
 obtain ⟨c,hc,hv⟩ := hv
 rw [List.mem_map] at hc
 obtain ⟨x,_,rfl⟩ := hc
 simp only [itC,List.mem_cons,List.not_mem_nil,or_false] at hv
 rcases hv with rfl | rfl | rfl <;> rfl
theorem one_kiT (u : Tbl) : ∀ v ∈ (u.cols.map fun x => [Value.int .i64 x.2.1]).flatten,v.oneCell' = true := by
 intro v hv
 rw [List.mem_flatten] at hv
 obtain ⟨c,hc,hv⟩ := hv
 rw [List.mem_map] at hc
 obtain ⟨x,_,rfl⟩ := hc
 rw [List.mem_singleton] at hv
 subst hv
 rfl
theorem selP_none {T : List Tbl} {m : Sq} {t : Tbl} (hj : m.join ≠ ⟨#[]⟩) (hlk : lookT T m.table = some t) (h : lookT T m.join = none) : selP T m = 9 := by
 have hn : namesP m = [m.table,m.join] := by unfold namesP; rw [if_neg hj]
 have hE : fromE T m = 9 := by unfold fromE overE; rw [hn]; simp [lookE,hlk,h,erL]
 unfold selP
 rw [hE]; rfl
theorem selP_same {T : List Tbl} {m : Sq} {t : Tbl} (hj : m.join ≠ ⟨#[]⟩) (hlk : lookT T m.table = some t) (h : m.join = m.table) : selP T m = 12 := by
 have hn : namesP m = [m.table,m.join] := by unfold namesP; rw [if_neg hj]
 have hE : fromE T m = 12 := by
  unfold fromE overE; rw [hn,if_pos]
  refine ⟨?_,h,hj⟩
  rw [h]; simp [lookE,hlk,erL]
 unfold selP
 rw [hE]; rfl
theorem selP_two {T : List Tbl} {m : Sq} {t u : Tbl} (hj : m.join ≠ ⟨#[]⟩) (hlk : lookT T m.table = some t) (hlu : lookT T m.join = some u) (h : m.join ≠ m.table) : selP T m = erL [onCP (colsT t ++ colsT u) m.on,itmsP (colsT t ++ colsT u) m.items m.order.length,whP (colsT t ++ colsT u) m.wh,orderKP (colsT t ++ colsT u) m.order] := by
 have hn : namesP m = [m.table,m.join] := by unfold namesP; rw [if_neg hj]
 have hE : fromE T m = 0 := by
  unfold fromE overE; rw [hn,if_neg (fun hh => h hh.2.1)]
  simp [lookE,hlk,hlu,erL]
 have hC : fromC T m = colsT t ++ colsT u := by unfold fromC overC; rw [hn]; simp [List.filterMap_cons,hlk,hlu]
 unfold selP
 rw [hE,hC,if_neg (by decide)]
theorem two_on {S : List Cl3} {l : List (Pg × Tg)} (hl : l.length = 2) : alikeP (l.map fun x => (kdT S x).1) = decide ((l.map fun x => (kdT S x).1)[0]'(by simp [hl]) = (l.map fun x => (kdT S x).1)[1]'(by simp [hl])) := by
 match l,hl with
 | [x,y],_ =>
  simp only [List.map_cons,List.map_nil,List.getElem_cons_zero,List.getElem_cons_succ]
  unfold alikeP
  by_cases h : (kdT S x).1 = (kdT S y).1
  ·simp [h]
  ·have : ¬ (kdT S y).1 = (kdT S x).1 := fun e => h e.symm
   simp [h,this]

set_option maxRecDepth 100000 in
set_option maxHeartbeats 4000000 in
theorem selected_two {T : List Tbl} (hT5 : T.length ≤ 500) (hT50 : ∀ t ∈ T,t.cols.length ≤ 50) {t : Tbl} {m : Sq} (hB : SqB m) {w : World} {ta : Option Addr} {tn tc : Nat} {vb : Option Addr} {vm vd : Nat} (hT : RowIs eTbl (fun _ => True) w (.slice ta tn tc) T) {s : Sv} (hm : IsQ w m s) (hlk : lookT T m.table = some t) {ca : Option Addr} {cn cc : Nat} (hc : RowIs eCol (fun _ => True) w (.slice ca cn cc) t.cols) (xa : Option Addr) (xn xc : Nat) (hod1 : m.order.length ≤ 1) (hodc : m.order.all colP1 = true) (hTne : ∀ t ∈ T,t.cols ≠ []) (hj : m.join ≠ ⟨#[]⟩) (hon : m.on.length = 2) :
  Calls Tryz.prog 37 #[.agg #[.slice ta tn tc,.slice vb vm vd],stV s,.agg #[.string t.name,.slice ca cn cc,.slice xa xn xc]] w fun en w' => en = .returned (.int .i64 (selP T m)) ∧ Below w.heap.size w w' := by
 have ht : t.cols.length ≤ 50 := hT50 t (lookT_mem hlk)
 have hw := bal (bal (bal (Below.refl w.heap.size w) (.cells #[.slice ta tn tc,.slice vb vm vd] 38)) (svO s)) (.cells #[.string t.name,.slice ca cn cc,.slice xa xn xc] 58)
 have bs := ((Bk.new w (.cells #[.slice ta tn tc,.slice vb vm vd] 38)).later (bal (Below.refl _ _) (svO s))).later (bal (Below.refl _ _) (.cells #[.string t.name,.slice ca cn cc,.slice xa xn xc] 58))
 have bq := (Bk.new (w.alloc (.cells #[.slice ta tn tc,.slice vb vm vd] 38)) (svO s)).later (bal (Below.refl _ _) (.cells #[.string t.name,.slice ca cn cc,.slice xa xn xc] 58))
 have bt := Bk.new ((w.alloc (.cells #[.slice ta tn tc,.slice vb vm vd] 38)).alloc (svO s)) (.cells #[.string t.name,.slice ca cn cc,.slice xa xn xc] 58)
 rw [World.size_alloc] at bq
 rw [World.size_alloc,World.size_alloc] at bt
 generalize hW : ((w.alloc (.cells #[.slice ta tn tc,.slice vb vm vd] 38)).alloc (svO s)).alloc (.cells #[.string t.name,.slice ca cn cc,.slice xa xn xc] 58) = W at hw bs bq bt
 replace hm := hm.later hw
 replace hc := hc.keep (by decide) fun b _ hl => hw.block b hl
 replace hT := hT.keep (by decide) fun b _ hl => hw.block b hl
 have z0 := bq.cell 0
 have z1 := bq.cell 1
 have z2 := bq.cell 2
 have z3 := bq.cell 3
 have z4 := bq.cell 4
 have z5 := bq.cell 5
 have z6 := bq.cell 6
 have z7 := bq.cell 7
 have z8 := bq.cell 8
 have z9 := bq.cell 9
 have z10 := bq.cell 10
 have z11 := bq.cell 11
 have z12 := bq.cell 12
 have y0 := bt.cell 0
 have y1 := bt.cell 1
 have y2 := bt.cell 2
 have x0 := bs.cell 0
 have x1 := bs.cell 1
 simp only [List.getElem?_toArray,List.getElem?_cons_zero,List.getElem?_cons_succ] at z0 z1 z2 z3 z4 z5 z6 z7 z8 z9 z10 z11 z12 y0 y1 y2 x0 x1
 have HCo : Hid _ := hid (rcols_any (nm := t.name) (a' := xa) (n' := xn) (c' := xc) hc ht)
 have HIt : Hid (∀ w',Below W.heap.size W w' → RowIs eItem (fun _ => True) w' (.slice s.it.1 s.it.2.1 s.it.2.2) m.items) := hid fun w' hb => (hm.later hb).it
 have HWh : Hid (∀ w',Below W.heap.size W w' → RowIs eG (fun _ => True) w' (.slice s.wh.1 s.wh.2.1 s.wh.2.2) m.wh) := hid fun w' hb => (hm.later hb).wh
 have HOd : Hid (∀ w',Below W.heap.size W w' → RowIs eG (fun _ => True) w' (.slice s.od.1 s.od.2.1 s.od.2.2) m.order) := hid fun w' hb => (hm.later hb).od
 have HOn : Hid (∀ w',Below W.heap.size W w' → RowIs eG (fun _ => True) w' (.slice s.on.1 s.on.2.1 s.on.2.2) m.on) := hid fun w' hb => (hm.later hb).on
 obtain ⟨i1,i2,i3⟩ := hm.it.lens
 obtain ⟨o1,o2,o3⟩ := hm.od.lens
 obtain ⟨n1,n2,n3⟩ := hm.on.lens
 have hI5 := hB.it
 have ktb := hm.tb
 have kjn := hm.jn
 rw [ktb] at z1
 rw [kjn] at z7
 have HSn : Hid (lookT T m.join = none → selP T m = 9) := hid (selP_none hj hlk)
 have HSs : Hid (m.join = m.table → selP T m = 12) := hid (selP_same hj hlk)
 have HS2 : Hid (∀ u,lookT T m.join = some u → m.join ≠ m.table → selP T m = erL [onCP (colsT t ++ colsT u) m.on,itmsP (colsT t ++ colsT u) m.items m.order.length,whP (colsT t ++ colsT u) m.wh,orderKP (colsT t ++ colsT u) m.order]) := hid fun u h1 h2 => selP_two hj hlk h1 h2
 have HTb : Hid (∀ w',Below W.heap.size W w' → _) := hid fun w' hb => rtable_any hT5 m.join (hT.keep (by decide) fun b _ hl => hb.block b hl) vb vm vd
 have HU : Hid (∀ u,lookT T m.join = some u → u.cols.length ≤ 50 ∧ u.cols ≠ []) := hid fun u h => ⟨hT50 u (lookT_mem h),hTne u (lookT_mem h)⟩
 have es := empty_str m.join
 have eb : m.join.toList.isEmpty = false := by rw [es]; simpa using hj
 have n1s := same_str m.join m.table
 obtain ⟨sk,stb,snm,sco,sta,sva,⟨it0,it1,it2⟩,sjn,⟨on0,on1,on2⟩,⟨wh0,wh1,wh2⟩,⟨od0,od1,od2⟩,sds,sinn⟩ := s
 dsimp only [stV,svO] at *
 subst ktb
 subst kjn
 clear bs bq bt hm hB hc
 generalize selP T m = R at *
 have Z6 : Hid _ := hid z6
 have Z8 : Hid _ := hid z8
 have Z9 : Hid _ := hid z9
 have Z10 : Hid _ := hid z10
 clear es hj hT hTne hT50 hlk
 go_enter Tryz.func37,Tryz.ntmps37
 go_upto_region 1 with fail
 clear hW
 obtain ⟨q,hq⟩ : ∃ q,w.heap.size = q := ⟨_,rfl⟩
 have Hq : Hid _ := hid hq
 rw [hq] at Z6 Z8 Z9 Z10
 simp only [World.size_alloc,hq] at z0 z1 z6 z7 z8 z9 z10 y0 y1 y2 x0 x1 ⊢
 clear hq
 generalize hq1 : q + 1 = q1 at *
 generalize hq2 : q1 + 1 = q2 at *
 have Hq1 : Hid _ := hid hq1
 have Hq2 : Hid _ := hid hq2
 clear hq1 hq2
 go_wp2_with fail
 refine Calls.mono HCo.out ?_
 rintro e U ⟨v1,v2,rfl,ho1,ho2,hap,hbU⟩
 obtain ⟨ia,im,ic,rfl⟩ := ho1.sl
 obtain ⟨ka,km,kc,rfl⟩ := ho2.sl
 have hwU : Below w.heap.size w U := Below.on hw hbU
 replace z0 := cell_later hbU z0
 replace z1 := cell_later hbU z1
 replace z6 := cell_later hbU z6
 replace z7 := cell_later hbU z7
 replace z8 := cell_later hbU z8
 replace z9 := cell_later hbU z9
 replace z10 := cell_later hbU z10
 replace x0 := cell_later hbU x0
 replace x1 := cell_later hbU x1
 clear HCo z2 z3 z4 z5 z11 z12 y0 y1 y2
 have hon2 := hon
 have HTx : Hid _ := hid (HTb.out U hbU)
 clear HTb
 go_upto_if 31 with fail
 go_cut [7,8] (fun v7 v8 w' => ∃ (u : Tbl) (ia im ic ka km kc : _),v7 = .slice ia im ic ∧ v8 = .slice ka km kc ∧ RowIs eItem (fun _ => True) w' (.slice ia im ic) (itT t ++ itT u) ∧ RowIs eInt (fun _ => True) w' (.slice ka km kc) (kiT t ++ kiT u) ∧ u.cols.length ≤ 50 ∧ Hid (R = erL [itmsP (colsT t ++ colsT u) m.items m.order.length,whP (colsT t ++ colsT u) m.wh,orderKP (colsT t ++ colsT u) m.order]) ∧ Below W.heap.size W w')
 case first =>
  go_wp2_with fail
  refine Calls.mono HTx.out ?_
  rintro e U2 ⟨us,ua,un,uc,va,vn,vc,is,rfl,his,hso,hb2⟩
  have hbU2 := Below.on hbU hb2
  replace ho1 := ho1.later hb2
  replace ho2 := ho2.later hb2
  replace z1 := cell_later hb2 z1
  replace z7 := cell_later hb2 z7
  clear HTx x0 x1 z0 z6 z8 z9 z10 hb2 hwU hbU
  generalize hlj : lookT T m.join = lj at *
  cases lj with
  | none =>
   have HT : Hid (R = 9) := hid (HSn.out rfl)
   obtain rfl : is = false := his
   clear HSn HSs HS2 HU hso hlj
   go_wp2
   go_ret
   exact ⟨ret_int HT.out.symm,by first | exact bal (Below.on hw hbU2) _ | exact Below.on hw hbU2⟩
  | some u =>
   obtain rfl : is = true := his
   obtain ⟨rfl,hcu⟩ := hso u rfl
   obtain ⟨hu50,hune⟩ := HU.out u rfl
   clear HU HSn hlj hso
   go_upto_region 4 with fail
   have bx := Bk.new U2 (.cells #[.string u.name,.slice ua un uc,.slice va vn vc] 58)
   have hb3 := bal (Below.refl U2.heap.size U2) (.cells #[.string u.name,.slice ua un uc,.slice va vn vc] 58)
   replace ho1 := ho1.alloc (.cells #[.string u.name,.slice ua un uc,.slice va vn vc] 58)
   replace ho2 := ho2.alloc (.cells #[.string u.name,.slice ua un uc,.slice va vn vc] 58)
   generalize U2.alloc (.cells #[.string u.name,.slice ua un uc,.slice va vn vc] 58) = U3 at bx hb3 ho1 ho2 ⊢
   have hbU3 := Below.on hbU2 hb3
   replace z1 := cell_later hb3 z1
   replace z7 := cell_later hb3 z7
   have d0 := bx.cell 0
   have d1 := bx.cell 1
   have d2 := bx.cell 2
   simp only [List.getElem?_toArray,List.getElem?_cons_zero,List.getElem?_cons_succ] at d0 d1 d2
   have HC2 : Hid _ := hid (rcols_any (nm := u.name) (a' := va) (n' := vn) (c' := vc) (hcu.keep (by decide) fun b _ hl => hb3.block b hl) hu50)
   generalize U2.heap.size = p at d0 d1 d2 ⊢
   clear bx hb3 hcu hbU2
   have hwU3 := Below.on hw hbU3
   by_cases hjt : m.join = m.table
   ·have f1 : (m.join.toList == m.table.toList) = true := by rw [n1s]; simpa using hjt
    have HT : Hid (R = 12) := hid (HSs.out hjt)
    clear HSs HS2 n1s hjt HC2
    go_wp2
    go_ret
    exact ⟨ret_int HT.out.symm,hwU3⟩
   ·have f1 : (m.join.toList == m.table.toList) = false := by rw [n1s]; simpa using hjt
    have HR0 : Hid _ := hid (HS2.out u rfl hjt)
    clear HSs HS2 n1s hjt
    go_wp2_with fail
    refine Calls.mono HC2.out ?_
    rintro e w4 ⟨v3,v4,rfl,ho3,ho4,hap4,hb4⟩
    have hbW4 := Below.on hbU3 hb4
    have hb34 := hbU3.size
    have hbl1 := ho1.blk
    have hbl2 := ho2.blk
    have hbl3 := ho3.blk
    have hbl4 := ho4.blk
    replace ho1 := ho1.later hb4
    replace ho2 := ho2.later hb4
    replace ho3 := ho3.base (B' := W.heap.size) (by omega)
    replace ho4 := ho4.base (B' := W.heap.size) (by omega)
    have ap14 : Apart (.slice ia im ic) v4 := fun b hb hv => by have := (hbl1 b hb).2; have := (hbl4 b hv).1; omega
    obtain ⟨ja,jm,jc,rfl⟩ := ho3.sl
    obtain ⟨la,lm,lc,rfl⟩ := ho4.sl
    have hsz4 := hbW4.size
    have hl12 : (t.cols.map fun x => itC (0,t.name,x.1)).length + (u.cols.map fun x => itC (0,u.name,x.1)).length ≤ 1000 := by rw [List.length_map,List.length_map]; omega
    have hl34 : (t.cols.map fun x => [Value.int .i64 x.2.1]).length + (u.cols.map fun x => [Value.int .i64 x.2.1]).length ≤ 1000 := by rw [List.length_map,List.length_map]; omega
    have hn12 : (u.cols.map fun x => itC (0,u.name,x.1)) ≠ [] := by simpa using hune
    have hn34 : (u.cols.map fun x => [Value.int .i64 x.2.1]) ≠ [] := by simpa using hune
    have hbA : ∀ b,(Value.slice ia im ic).ownBlock = some b → W.heap.size ≤ b := fun b h => (hbl1 b h).1
    have hbK : ∀ b,(Value.slice ka km kc).ownBlock = some b → W.heap.size ≤ b := fun b h => (hbl2 b h).1
    clear HC2 hbl1 hbl2 hbl3 hbl4 hap4 hb4 hbU3 d0 d1 d2 z1 z7
    go_upto_region 9 with fail
    go_wp2_with (first | (at_builtin; refine wpList_appN Tryz.underlying22 Tryz.infoTItem rfl (by decide) (by decide) rfl (.tmp 51) (.tmp 52) rfl _ _ _ _ rfl rfl ho1 ho3 hn12 (one_itT u) hl12 hsz4 ?_) | fail)
    intro v5 w5 hO5 hg5 hown5
    have ho25 := ho2.far hg5 hap
    have ho45 := ho4.far hg5 ap14
    have ap5 : Apart v5 (.slice ka km kc) := Apart.grew hap ho2 hown5
    have hbW5 := below_grows hbW4 hsz4 hg5 hbA
    have hsz5 := hbW5.size
    clear ho1 ho2 ho3 ho4 hg5 hown5 ap14 hap hbW4 hn12 hl12
    go_wp2_with (first | (at_builtin; refine wpList_appN Tryz.underlying23 Tryz.infoTInt rfl (by decide) (by decide) rfl (.tmp 54) (.tmp 55) rfl _ _ _ _ rfl rfl ho25 ho45 hn34 (one_kiT u) hl34 hsz5 ?_) | fail)
    intro v6 w6 hO6 hg6 hown6
    have hO56 := hO5.far hg6 ap5.symm
    have hbU := below_grows hbW5 hsz5 hg6 hbK
    obtain ⟨ia2,im2,ic2,rfl⟩ := hO56.sl
    obtain ⟨ka2,km2,kc2,rfl⟩ := hO6.sl
    have R1 : Hid _ := hid hO56.itT2
    have R2 : Hid _ := hid hO6.kiT2
    have hwU := Below.on hw hbU
    clear hO5 hO6 hO56 hg6 hown6 ho25 ho45 ap5 hbW5 hn34 hl34 hsz4 hsz5 hbA hbK
    have z6 := cell_later hbU Z6.out
    have z8 := cell_later hbU Z8.out
    have z9 := cell_later hbU Z9.out
    have z10 := cell_later hbU Z10.out
    clear Z6 Z8 Z9 Z10
    generalize w6 = U at *
    have HPS0 : Hid (pairP (itT t ++ itT u) (kiT t ++ kiT u) = colsT t ++ colsT u) := hid (pairT2 t u)
    have hC5 : (itT t ++ itT u).length ≤ 500 := by rw [List.length_append,itT_len,itT_len]; omega
    have hK5 : (kiT t ++ kiT u).length ≤ 500 := by rw [List.length_append,kiT_len,kiT_len]; omega
    have HKd : Hid (∀ w' (x : Pg × Tg) (cs : List Value),Below U.heap.size U w' → eG.E (fun _ => True) w' x cs → Calls Tryz.prog 12 #[.slice ia2 im2 ic2,.slice ka2 km2 kc2,.agg cs.toArray] w' fun en w'' => en = .returned (.tuple #[.int .i64 (kdT (colsT t ++ colsT u) x).1,.int .i64 (kdT (colsT t ++ colsT u) x).2]) ∧ Below w'.heap.size w' w'') := hid fun w' x cs hb hE => by
     have := rkind_any hC5 hK5 x _ w' cs ia2 im2 ic2 ka2 km2 kc2 (R1.out.keep (by decide) fun b _ hl => hb.block b hl) (R2.out.keep (by decide) fun b _ hl => hb.block b hl) hE
     rwa [HPS0.out] at this
    have HOn2 : Hid (∀ w',Below U.heap.size U w' → RowIs eG (fun _ => True) w' (.slice on0 on1 on2) m.on) := hid fun w' hb => HOn.out w' (Below.on hbU hb)
    have HE1 : Hid (∀ i (h : i < (m.on.map fun x => (kdT (colsT t ++ colsT u) x).2).length),erL ((m.on.map fun x => (kdT (colsT t ++ colsT u) x).2).take i) = 0 → (m.on.map fun x => (kdT (colsT t ++ colsT u) x).2)[i] ≠ 0 → R = (m.on.map fun x => (kdT (colsT t ++ colsT u) x).2)[i]) := hid fun i h h0 h1 => by
     have e : orderKP (colsT t ++ colsT u) m.on = _ := erL_st h h0 h1
     rw [HR0.out,onCP,if_neg (fun hh => h1 (e ▸ hh.1)),erL,if_neg (by rw [e]; exact h1),e]
    have HE2 : Hid (∀ (p0 : 0 < (m.on.map fun x => (kdT (colsT t ++ colsT u) x).1).length) (p1 : 1 < (m.on.map fun x => (kdT (colsT t ++ colsT u) x).1).length),erL (m.on.map fun x => (kdT (colsT t ++ colsT u) x).2) = 0 → (m.on.map fun x => (kdT (colsT t ++ colsT u) x).1)[0] ≠ (m.on.map fun x => (kdT (colsT t ++ colsT u) x).1)[1] → R = 11) := hid fun p0 p1 h0 h1 => by
     rw [HR0.out,onCP,if_pos ⟨h0,by rw [two_on hon2]; simpa using h1⟩]; rfl
    have HE3 : Hid (∀ (p0 : 0 < (m.on.map fun x => (kdT (colsT t ++ colsT u) x).1).length) (p1 : 1 < (m.on.map fun x => (kdT (colsT t ++ colsT u) x).1).length),erL (m.on.map fun x => (kdT (colsT t ++ colsT u) x).2) = 0 → (m.on.map fun x => (kdT (colsT t ++ colsT u) x).1)[0] = (m.on.map fun x => (kdT (colsT t ++ colsT u) x).1)[1] → R = erL [itmsP (colsT t ++ colsT u) m.items m.order.length,whP (colsT t ++ colsT u) m.wh,orderKP (colsT t ++ colsT u) m.order]) := hid fun p0 p1 h0 h1 => by
     have e : onCP (colsT t ++ colsT u) m.on = 0 := by rw [onCP,if_neg (by rw [two_on hon2]; simp [h1])]; exact h0
     rw [HR0.out,erL,if_pos e]
    have HLn : Hid (∀ i (h1 : i < m.on.length) (h2 : i < (m.on.map fun x => (kdT (colsT t ++ colsT u) x).1).length) (h3 : i < (m.on.map fun x => (kdT (colsT t ++ colsT u) x).2).length),(kdT (colsT t ++ colsT u) m.on[i]).1 = (m.on.map fun x => (kdT (colsT t ++ colsT u) x).1)[i] ∧ (kdT (colsT t ++ colsT u) m.on[i]).2 = (m.on.map fun x => (kdT (colsT t ++ colsT u) x).2)[i]) := hid fun i h1 h2 h3 => by simp
    have hEl : (m.on.map fun x => (kdT (colsT t ++ colsT u) x).2).length = 2 := by rw [List.length_map,hon2]
    have hKl : (m.on.map fun x => (kdT (colsT t ++ colsT u) x).1).length = 2 := by rw [List.length_map,hon2]
    generalize (m.on.map fun x => (kdT (colsT t ++ colsT u) x).2) = EL at *
    generalize (m.on.map fun x => (kdT (colsT t ++ colsT u) x).1) = KL at *
    obtain rfl : on1 = 2 := by omega
    clear HR0
    go_upto_region 12 with fail
    go_loopw [13,14] (fun v13 v14 wr => ∃ (i : Nat) (la : Option Addr) (lm ld : Nat),i ≤ 2 ∧ v14 = .int .i64 (i : Int) ∧ v13 = .slice la lm ld ∧ OwnR 3 1 U.heap.size wr (.slice la lm ld) ((KL.take i).map fun z => [.int .i64 z]) ∧ Hid (erL (EL.take i) = 0) ∧ Below U.heap.size U wr) (fun _ i _ => 2 - (intOf i).toNat)
    case atStart => exact ⟨0,none,0,0,by omega,rfl,rfl,by rw [List.take_zero]; exact OwnR.nil _ _ _ _,hid (by rw [List.take_zero]; rfl),Below.refl _ _⟩
    case round =>
     obtain ⟨i,la,lm,ld,hi,rfl,rfl,ho,HE,hB⟩ := hrel
     have z8' := cell_later hB z8
     by_cases hlt : i < 2
     ·obtain ⟨_,_,_,e',_,_,_,hx⟩ := HOn2.out wr hB
      cases e'
      obtain ⟨b,o,rfl,-,hxi⟩ := hx (by decide)
      obtain ⟨cs,hE,-,hcc⟩ := hxi i (by omega)
      obtain ⟨y,hy⟩ : ∃ y,m.on[i]'(by omega) = y := ⟨_,rfl⟩
      have hkl : i < KL.length := by omega
      have hel : i < EL.length := by omega
      have hLn := HLn.out i (by omega) hkl hel
      rw [hy] at hE hLn
      have HKy := HKd.out wr y cs hB hE
      rw [hLn.1,hLn.2] at HKy
      obtain ⟨ya,yn,yc,rfl,hsl⟩ := hE
      simp only [exC] at hcc HKy
      have e0 : wr.cell? ⟨b,o + i * 7,none⟩ = some (.int .i64 y.1.1) := hcc 0 (show 0 < 7 by decide)
      have e1 : wr.cell? ⟨b,o + i * 7 + 1,none⟩ = some (.int .i64 y.1.2.1) := hcc 1 (show 1 < 7 by decide)
      have e2 : wr.cell? ⟨b,o + i * 7 + 2,none⟩ = some (.int .i64 y.1.2.2.1) := hcc 2 (show 2 < 7 by decide)
      have e3 : wr.cell? ⟨b,o + i * 7 + 3,none⟩ = some (.string y.1.2.2.2.1) := hcc 3 (show 3 < 7 by decide)
      have e4 : wr.cell? ⟨b,o + i * 7 + 4,none⟩ = some (.string y.1.2.2.2.2.1) := hcc 4 (show 4 < 7 by decide)
      have e5 : wr.cell? ⟨b,o + i * 7 + 5,none⟩ = some (.string y.1.2.2.2.2.2) := hcc 5 (show 5 < 7 by decide)
      have e6 : wr.cell? ⟨b,o + i * 7 + 6,none⟩ = some (.slice ya yn yc) := hcc 6 (show 6 < 7 by decide)
      have HTk : Hid (KL.take (i + 1) = KL.take i ++ [KL[i]]) := hid (List.take_succ_eq_append_getElem hkl)
      have HS1 : Hid (EL[i] ≠ 0 → R = EL[i]) := hid (HE1.out i hel HE.out)
      have HS0 : Hid (EL[i] = 0 → erL (EL.take (i + 1)) = 0) := hid (erL_tk hel HE.out)
      generalize KL[i] = lk at *
      generalize EL[i] = ek at *
      replace HKy : Hid _ := hid HKy
      have gi : (i : Int) < 2 := by omega
      clear hcc hx hxi hsl hy hLn HE HE1 HE2 HE3
      go_wp2_with fail
      refine Calls.mono HKy.out ?_
      rintro e w4 ⟨rfl,hb4⟩
      have ho4 := ho.later hb4
      have hB4 := Below.on hB hb4
      clear HKy e0 e1 e2 e3 e4 e5 e6 z8' ho hb4
      by_cases he0 : ek = 0
      ·subst he0
       have HS00 : Hid _ := hid (HS0.out rfl)
       clear HS0 HS1
       have ho5 := ho4.alloc (.cells #[.int .i64 lk] 3)
       have hB5 := bal hB4 (.cells #[.int .i64 lk] 3)
       have hblk := ho4.blk
       have hl5 : ((KL.take i).map fun z => [Value.int .i64 z]).length ≤ 1000 := by rw [List.length_map,List.length_take]; omega
       clear ho4 hB4
       go_wp2_with (first | (at_builtin; go_must (refine wpList_appR Tryz.underlying23 Tryz.infoTInt2 rfl (by decide) (by decide) rfl (.tmp 75) (.tmp 77) rfl _ ((KL.take i).map fun z => [.int .i64 z]) w4.heap.size [.int .i64 lk] rfl rfl ho5 rfl (by simp [Value.oneCell']) (newK1 w4 _ _) hl5 hB5.size ?_)) | fail)
       intro v' w6 hO6 hg6 hown
       have hB6 := below_grows hB5 hB5.size hg6 fun k e => (hblk k e).1
       obtain ⟨a2,m2,d2x,rfl⟩ := hO6.sl
       have hO7 : OwnR 3 1 U.heap.size w6 (.slice a2 m2 d2x) ((KL.take (i + 1)).map fun z => [.int .i64 z]) := by rw [HTk.out,List.map_append,List.map_take]; exact hO6
       clear hO6 hg6 hown ho5 hB5 hblk hl5
       go_wp2
       go_roundw
       case rel => exact ⟨i + 1,a2,m2,d2x,by omega,by go_num,rfl,hO7,HS00,hB6⟩
       case measure => simp only [intOf]; omega
      ·have q1 : decide (ek = 0) = false := by simpa using he0
       have q2 : (ek != 0) = true := by simpa using he0
       have HT : Hid (R = ek) := hid (HS1.out he0)
       clear HS0 HS1 HTk ho4
       go_wp2
       go_ret
       exact ⟨ret_int HT.out.symm,Below.on hwU hB4⟩
     ·obtain rfl : i = 2 := by omega
      rw [show KL.take 2 = KL from List.take_of_length_le (by omega)] at ho
      have hrow := own_ints ho
      have hEE : erL EL = 0 := by have := HE.out; rwa [List.take_of_length_le (by omega)] at this
      obtain ⟨_,_,_,e',q1,_,_,hx⟩ := hrow
      cases e'
      obtain ⟨b,o,rfl,-,hxi⟩ := hx (by omega)
      obtain ⟨cs,hE,-,hcc⟩ := hxi 0 (by omega)
      obtain ⟨cs2,hE2,-,hcc2⟩ := hxi 1 (by omega)
      have hEa : cs = [.int .i64 (KL[0]'(by omega))] := hE
      have hEb : cs2 = [.int .i64 (KL[1]'(by omega))] := hE2
      subst hEa
      subst hEb
      have k0 : wr.cell? ⟨b,o,none⟩ = some (.int .i64 (KL[0]'(by omega))) := by simpa [eInt] using hcc 0 (show 0 < 1 by decide)
      have k1 : wr.cell? ⟨b,o + 1,none⟩ = some (.int .i64 (KL[1]'(by omega))) := by simpa [eInt] using hcc2 0 (show 0 < 1 by decide)
      have D2 : Hid _ := hid (HE2.out (by omega) (by omega) hEE)
      have D3 : Hid _ := hid (HE3.out (by omega) (by omega) hEE)
      obtain rfl : lm = 2 := by omega
      generalize KL[0]'(by omega) = a0 at *
      generalize KL[1]'(by omega) = a1 at *
      clear hcc hcc2 hx hxi hE hE2 HE HE1 HE2 HE3 hEE ho HKd HOn2 HLn
      by_cases h01 : a0 = a1
      ·subst h01
       have HR : Hid _ := hid (D3.out rfl)
       clear D2 D3
       go_upto_region 18 with fail
       go_quiet (fail)
       have hbX := below_drewN hB nq
       generalize wr.drewN nq = U9 at hbX ⊢
       have hbU9 := Below.on hbU hbX
       have hwU9 := Below.on hwU hbX
       replace R1 : Hid _ := hid (R1.out.keep (by decide) fun b _ hl => hbX.block b hl)
       replace R2 : Hid _ := hid (R2.out.keep (by decide) fun b _ hl => hbX.block b hl)
       replace z6 := cell_later hbX z6
       replace z9 := cell_later hbX z9
       replace z10 := cell_later hbX z10
       clear hbU hwU hbX k0 k1 z8 z8' hB
       go_wp2_with fail
       go_meet
       exact ⟨u,ia2,im2,ic2,ka2,km2,kc2,rfl,rfl,R1.out,R2.out,hu50,HR,hbU9⟩
      ·have q2 : (a0 != a1) = true := by simpa using h01
       have q3 : decide (a0 = a1) = false := by simpa using h01
       have HT : Hid (R = 11) := hid (D2.out h01)
       clear D2 D3
       go_upto_region 18 with fail
       go_quiet (fail)
       go_wp2
       go_ret
       exact ⟨ret_int HT.out.symm,by first | exact Below.on hwU hB | exact below_drewN (Below.on hwU hB) _ | exact (Below.on hwU hB).drew⟩
 case rest =>
 obtain ⟨u,ia2,im2,ic2,ka2,km2,kc2,rfl,rfl,r1,r2,hu50,HR,hbU9⟩ := hcut
 clear ho1 ho2 hap HTx HSn HSs HS2 HU z1 z7 z0 z6 z8 z9 z10 x0 x1 eb n1s hbU hwU
 have R1 : Hid _ := hid r1
 have R2 : Hid _ := hid r2
 clear r1 r2
 have hwU9 := Below.on hw hbU9
 have z6 := cell_later hbU9 Z6.out
 have z9 := cell_later hbU9 Z9.out
 have z10 := cell_later hbU9 Z10.out
 clear Z6 Z8 Z9 Z10
 have HPS0 : Hid (pairP (itT t ++ itT u) (kiT t ++ kiT u) = colsT t ++ colsT u) := hid (pairT2 t u)
 have hC5 : (itT t ++ itT u).length ≤ 500 := by rw [List.length_append,itT_len,itT_len]; omega
 have hK5 : (kiT t ++ kiT u).length ≤ 500 := by rw [List.length_append,kiT_len,kiT_len]; omega
 generalize wc = U9 at *
 obtain ⟨S,hS⟩ : ∃ S,colsT t ++ colsT u = S := ⟨_,rfl⟩
 rw [hS] at HR
 have HPS : Hid (pairP (itT t ++ itT u) (kiT t ++ kiT u) = S) := hid (by rw [← hS]; exact HPS0.out)
 clear hS HPS0
 obtain ⟨C,hC⟩ : ∃ C,itT t ++ itT u = C := ⟨_,rfl⟩
 obtain ⟨K,hK⟩ : ∃ K,kiT t ++ kiT u = K := ⟨_,rfl⟩
 rw [hC] at R1 HPS hC5
 rw [hK] at R2 HPS hK5
 clear hC hK
 have lK := R2.out.lens
 have lC := R1.out.lens
 have HX0 : Hid (∀ w',Below U9.heap.size U9 w' → Calls Tryz.prog 74 #[.slice ia2 im2 ic2,.slice ka2 km2 kc2,.slice wh0 wh1 wh2] w' fun en w'' => en = .returned (.int .i64 (whP S m.wh)) ∧ Below w'.heap.size w' w'') := hid fun w' hb => by
  have := rwhere_any hC5 hK5 (R1.out.keep (by decide) fun b _ hl => hb.block b hl) (R2.out.keep (by decide) fun b _ hl => hb.block b hl) (HWh.out w' (Below.on hbU9 hb))
  rwa [HPS.out] at this
 have HAt : Hid (∀ w' (x : Pg × Tg) (ea : Option Addr) (en ec : Nat),Below U9.heap.size U9 w' → Calls Tryz.prog 27 #[.slice ia2 im2 ic2,.int .i64 (km2 : Int),.agg #[.int .i64 x.1.1,.int .i64 x.1.2.1,.int .i64 x.1.2.2.1,.string x.1.2.2.2.1,.string x.1.2.2.2.2.1,.string x.1.2.2.2.2.2,.slice ea en ec]] w' fun e w'' => ∃ r er,e = .returned (.tuple #[.int .i64 r,.int .i64 er]) ∧ ((∃ q : Nat,∃ hq : q < K.length,r = q ∧ er = 0 ∧ clmK S x.1.2.2.2.2.1 x.1.2.2.2.2.2 = (K[q],0)) ∨ (r = -1 ∧ er = 10 ∧ clmK S x.1.2.2.2.2.1 x.1.2.2.2.2.2 = (0,10))) ∧ Below w'.heap.size w' w'') := hid fun w' x ea en ec hb => by
  refine Calls.mono (at_any hC5 km2 (by omega) x (R1.out.keep (by decide) fun b _ hl => hb.block b hl) ea en ec) ?_
  rintro e w'' ⟨r,er,rfl,ha,hb2⟩
  have := ha K lK.1
  rw [HPS.out] at this
  exact ⟨r,er,rfl,this,hb2⟩
 have HKi : Hid (∀ w',Below U9.heap.size U9 w' → RowIs eInt (fun _ => True) w' (.slice ka2 km2 kc2) K) := hid fun w' hb => R2.out.keep (by decide) fun b _ hl => hb.block b hl
 have HIt2 : Hid (∀ w',Below U9.heap.size U9 w' → RowIs eItem (fun _ => True) w' (.slice it0 it1 it2) m.items) := hid fun w' hb => HIt.out w' (Below.on hbU9 hb)
 have HOd2 : Hid (∀ w',Below U9.heap.size U9 w' → RowIs eG (fun _ => True) w' (.slice od0 od1 od2) m.order) := hid fun w' hb => HOd.out w' (Below.on hbU9 hb)
 clear HIt HWh HOd R1 R2 HPS hbU9
 have hC500 : im2 ≤ 500 := by omega
 obtain ⟨L,hL⟩ : ∃ L,m.items = L := ⟨_,rfl⟩
 rw [hL] at HIt2 i1 hI5 HR
 obtain ⟨O,hO⟩ : ∃ O,m.order = O := ⟨_,rfl⟩
 rw [hO] at HOd2 o1 HR hod1 hodc
 clear hL hO
 have HLl : Hid ((L.map (itmP S)).length = it1) := hid (by rw [List.length_map,i1])
 have HRe : Hid (erL (L.map (itmP S)) ≠ 0 → R = erL (L.map (itmP S))) := hid fun h => by rw [HR.out,itmsP,if_pos h]; simp [erL,h]
 have HRf : Hid (erL (L.map (itmP S)) = 0 → 0 < (L.filter foldP).length ∧ ((L.filter foldP).length < L.length ∨ 0 < O.length) → R = 11) := hid fun h h2 => by rw [HR.out,itmsP,if_neg (by simpa using h),if_pos h2]; rfl
 have HRw : Hid (erL (L.map (itmP S)) = 0 → ¬ (0 < (L.filter foldP).length ∧ ((L.filter foldP).length < L.length ∨ 0 < O.length)) → R = erL [whP S m.wh,orderKP S O]) := hid fun h h2 => by rw [HR.out,itmsP,if_neg (by simpa using h),if_neg h2,erL,if_pos rfl]
 have HRi : Hid (∀ i (h : i < L.length),erL ((L.map (itmP S)).take i) = 0 → itmP S L[i] ≠ 0 → R = itmP S L[i]) := hid fun i h h0 h1 => by
  have hl : i < (L.map (itmP S)).length := by rw [List.length_map]; exact h
  have e := erL_st hl h0 (by rw [itmP_at h]; exact h1)
  rw [itmP_at h] at e
  rw [HRe.out (by rw [e]; exact h1),e]
 have HRn : Hid (∀ i (h : i < L.length),erL ((L.map (itmP S)).take i) = 0 → itmP S L[i] = 0 → erL ((L.map (itmP S)).take (i + 1)) = 0) := hid fun i h h0 h1 => erL_tk (by rw [List.length_map]; exact h) h0 (by rw [itmP_at h]; exact h1)
 have HFt : Hid (∀ i (h : i < L.length),((L.take (i + 1)).filter foldP).length = ((L.take i).filter foldP).length + (if L[i].1 = 0 then 0 else 1)) := hid fun i h => fold_tk h
 clear HR HRe
 generalize whP S m.wh = wv at *
 go_upto_region 22 with fail
 go_loopw [17,18,19] (fun v17 v18 v19 wr => ∃ (i A P : Nat),i ≤ it1 ∧ v17 = .int .i64 (A : Int) ∧ v18 = .int .i64 (P : Int) ∧ v19 = .int .i64 (i : Int) ∧ Hid (erL ((L.map (itmP S)).take i) = 0) ∧ Hid (A = ((L.take i).filter foldP).length) ∧ A + P = i ∧ Below U9.heap.size U9 wr) (fun _ _ i _ => it1 - (intOf i).toNat)
 case atStart => exact ⟨0,0,0,Nat.zero_le _,rfl,rfl,rfl,hid (by rw [List.take_zero]; rfl),hid (by rw [List.take_zero]; rfl),rfl,Below.refl _ _⟩
 case round =>
  obtain ⟨i,A,P,hi,rfl,rfl,rfl,HE,HA,hAP,hB⟩ := hrel
  replace z6 := cell_later hB z6
  replace z9 := cell_later hB z9
  replace z10 := cell_later hB z10
  have hBw := Below.on hwU9 hB
  by_cases hlt : i < it1
  ·have hiL : i < L.length := by omega
   obtain ⟨_,_,_,e',_,_,_,hx⟩ := HIt2.out wr hB
   cases e'
   obtain ⟨b,o,rfl,-,hxi⟩ := hx (by omega)
   obtain ⟨cs,hE,-,hcc⟩ := hxi i hiL
   have hE' : cs = [.int .i64 L[i].1,.string L[i].2.1,.string L[i].2.2] := hE
   subst hE'
   have c0 : wr.cell? ⟨b,o + i * 3,none⟩ = some (.int .i64 L[i].1) := hcc 0 (show 0 < 3 by decide)
   have c1 : wr.cell? ⟨b,o + i * 3 + 1,none⟩ = some (.string L[i].2.1) := hcc 1 (show 1 < 3 by decide)
   have c2 : wr.cell? ⟨b,o + i * 3 + 2,none⟩ = some (.string L[i].2.2) := hcc 2 (show 2 < 3 by decide)
   have gi : (i : Int) < (it1 : Int) := by omega
   have HiP : Hid (itmP S L[i] ≠ 0 → R = itmP S L[i]) := hid (HRi.out i hiL HE.out)
   have HiN : Hid (itmP S L[i] = 0 → erL ((L.map (itmP S)).take (i + 1)) = 0) := hid (HRn.out i hiL HE.out)
   have HiF : Hid (((L.take (i + 1)).filter foldP).length = A + (if L[i].1 = 0 then 0 else 1)) := hid (by rw [HFt.out i hiL,← HA.out])
   generalize hLi : L[i] = it at *
   obtain ⟨ag,tb,nm⟩ := it
   dsimp only at *
   have HLi : Hid _ := hid hLi
   clear hLi hE hcc hx hxi HRi HRn HFt HE HA
   go_upto_region 25 with fail
   have bx := Bk.new wr (.cells #[.int .i64 ag,.string tb,.string nm] 66)
   have hb1 := bal (Below.refl wr.heap.size wr) (.cells #[.int .i64 ag,.string tb,.string nm] 66)
   generalize wr.alloc (.cells #[.int .i64 ag,.string tb,.string nm] 66) = V at bx hb1 ⊢
   have hBV := Below.on hB hb1
   have hVw := Below.on hBw hb1
   have d0 := bx.cell 0
   have d1 := bx.cell 1
   have d2 := bx.cell 2
   simp only [List.getElem?_toArray,List.getElem?_cons_zero,List.getElem?_cons_succ] at d0 d1 d2
   clear hb1 bx c0 c1 c2 z6 z9 z10
   generalize wr.heap.size = p at d0 d1 d2 ⊢
   have hPb : P ≤ 500 := by omega
   have hAb : A ≤ 500 := by omega
   by_cases hneg : ag < 0
   ·have HT : Hid (R = 1) := hid (by have e := itm_bad (S := S) (tb := tb) (nm := nm) (.inl hneg); rw [HiP.out (by rw [e]; decide),e])
    have g1 : decide (ag < 0) = true := by simpa using hneg
    clear HiP HiN HiF HAt HX0 HKi
    go_wp2
    go_ret
    exact ⟨ret_int HT.out.symm,hVw⟩
   by_cases hbig : 4 < ag
   ·have HT : Hid (R = 1) := hid (by have e := itm_bad (S := S) (tb := tb) (nm := nm) (.inr hbig); rw [HiP.out (by rw [e]; decide),e])
    have g1 : decide (ag < 0) = false := by simpa using hneg
    have g2 : decide (4 < ag) = true := by simpa using hbig
    clear HiP HiN HiF HAt HX0 HKi
    go_wp2
    go_ret
    exact ⟨ret_int HT.out.symm,hVw⟩
   have es := empty_str nm
   rcases (by omega : ag = 1 ∨ ag = 0 ∨ ag = 2 ∨ ag = 3 ∨ ag = 4) with rfl | rfl | rfl | rfl | rfl
   ·clear HAt HX0 HKi hneg hbig
    by_cases hnm : nm = ⟨#[]⟩
    ·have eb : nm.toList.isEmpty = true := by rw [es]; simpa using hnm
     have HZ : Hid (itmP S (1,tb,nm) = 0) := hid (by rw [itm_one,if_pos hnm])
     clear es hnm
     go_wp2
     go_roundw
     case rel => exact ⟨i + 1,A + 1,P,by omega,by go_num,by go_num,by go_num,hid (HiN.out HZ.out),hid (by rw [HiF.out]; rfl),by omega,hBV⟩
     case measure => simp only [intOf]; omega
    ·have eb : nm.toList.isEmpty = false := by rw [es]; simpa using hnm
     have HT : Hid (R = 1) := hid (by have e : itmP S (1,tb,nm) = 1 := (by rw [itm_one,if_neg hnm]); rw [HiP.out (by rw [e]; decide),e])
     clear es hnm HiP HiN HiF
     go_wp2
     go_ret
     exact ⟨ret_int HT.out.symm,hVw⟩
   ·have HAx := HAt.out V ((0,0,0,⟨#[]⟩,tb,nm),.nil) none 0 0 hBV
    dsimp only at HAx
    replace HAx : Hid _ := hid HAx
    clear HAt HX0 hneg hbig es
    go_wp2_with fail
    refine Calls.mono HAx.out ?_
    rintro e w4 ⟨r,er,rfl,hres,hb4⟩
    have hB4 := Below.on hBV hb4
    have hB4w := Below.on hVw hb4
    replace d0 := cell_later hb4 d0
    clear HAx
    rcases hres with ⟨qq,hqq,rfl,rfl,hcl⟩ | ⟨rfl,rfl,hcl⟩
    ·have HZ : Hid (itmP S (0,tb,nm) = 0) := hid (by rw [itm_col (by decide),hcl])
     clear hcl HiP HKi hb4
     go_wp2
     go_roundw
     case rel => exact ⟨i + 1,A,P + 1,by omega,by go_num,by go_num,by go_num,hid (HiN.out HZ.out),hid (by rw [HiF.out]; rfl),by omega,hB4⟩
     case measure => simp only [intOf]; omega
    ·have HT : Hid (R = 10) := hid (by have e : itmP S (0,tb,nm) = 10 := (by rw [itm_col (by decide),hcl]); rw [HiP.out (by rw [e]; decide),e])
     clear HiP HiN HiF hcl HKi
     go_wp2
     go_ret
     exact ⟨ret_int HT.out.symm,hB4w⟩
   ·have HAx := HAt.out V ((0,0,0,⟨#[]⟩,tb,nm),.nil) none 0 0 hBV
    dsimp only at HAx
    replace HAx : Hid _ := hid HAx
    clear HAt HX0 hneg hbig es
    go_wp2_with fail
    refine Calls.mono HAx.out ?_
    rintro e w4 ⟨r,er,rfl,hres,hb4⟩
    have hB4 := Below.on hBV hb4
    have hB4w := Below.on hVw hb4
    replace d0 := cell_later hb4 d0
    clear HAx
    rcases hres with ⟨qq,hqq,rfl,rfl,hcl⟩ | ⟨rfl,rfl,hcl⟩
    ·obtain ⟨_,_,_,e',_,_,_,hx⟩ := HKi.out w4 hB4
     cases e'
     obtain ⟨kb,ko,rfl,-,hxi⟩ := hx (by omega)
     obtain ⟨cs,hE,-,hcc⟩ := hxi qq hqq
     have hE' : cs = [.int .i64 K[qq]] := hE
     subst hE'
     have k0 : w4.cell? ⟨kb,ko + qq,none⟩ = some (.int .i64 K[qq]) := by simpa [eInt] using hcc 0 (show 0 < 1 by decide)
     have gq : (qq : Int) < (km2 : Int) := by omega
     have HI2 : Hid (itmP S (2,tb,nm) = if K[qq] = 2 then 11 else 0) := hid (by rw [itm_sum,hcl]; simp)
     generalize K[qq] = kv at *
     clear hcc hx hxi hE hcl HKi hb4
     by_cases hkv : kv = 2
     ·subst hkv
      have HT : Hid (R = 11) := hid (by have e : itmP S (2,tb,nm) = 11 := (by rw [HI2.out,if_pos rfl]); rw [HiP.out (by rw [e]; decide),e])
      clear HiP HiN HiF HI2
      go_wp2
      go_ret
      exact ⟨ret_int HT.out.symm,hB4w⟩
     ·have q1 : decide (kv = 2) = false := by simpa using hkv
      have q2 : (kv == 2) = false := by simpa using hkv
      have HZ : Hid (itmP S (2,tb,nm) = 0) := hid (by rw [HI2.out,if_neg hkv])
      clear HiP HI2
      go_wp2
      go_roundw
      case rel => exact ⟨i + 1,A + 1,P,by omega,by go_num,by go_num,by go_num,hid (HiN.out HZ.out),hid (by rw [HiF.out]; rfl),by omega,hB4⟩
      case measure => simp only [intOf]; omega
    ·have HT : Hid (R = 10) := hid (by have e : itmP S (2,tb,nm) = 10 := (by rw [itm_sum,hcl]; rfl); rw [HiP.out (by rw [e]; decide),e])
     clear HiP HiN HiF hcl HKi
     go_wp2
     go_ret
     exact ⟨ret_int HT.out.symm,hB4w⟩
   ·have HAx := HAt.out V ((0,0,0,⟨#[]⟩,tb,nm),.nil) none 0 0 hBV
    dsimp only at HAx
    replace HAx : Hid _ := hid HAx
    clear HAt HX0 hneg hbig es
    go_wp2_with fail
    refine Calls.mono HAx.out ?_
    rintro e w4 ⟨r,er,rfl,hres,hb4⟩
    have hB4 := Below.on hBV hb4
    have hB4w := Below.on hVw hb4
    replace d0 := cell_later hb4 d0
    clear HAx
    rcases hres with ⟨qq,hqq,rfl,rfl,hcl⟩ | ⟨rfl,rfl,hcl⟩
    ·have HZ : Hid (itmP S (3,tb,nm) = 0) := hid (by rw [itm_col (by decide),hcl])
     clear hcl HiP HKi hb4
     go_wp2
     go_roundw
     case rel => exact ⟨i + 1,A + 1,P,by omega,by go_num,by go_num,by go_num,hid (HiN.out HZ.out),hid (by rw [HiF.out]; rfl),by omega,hB4⟩
     case measure => simp only [intOf]; omega
    ·have HT : Hid (R = 10) := hid (by have e : itmP S (3,tb,nm) = 10 := (by rw [itm_col (by decide),hcl]); rw [HiP.out (by rw [e]; decide),e])
     clear HiP HiN HiF hcl HKi
     go_wp2
     go_ret
     exact ⟨ret_int HT.out.symm,hB4w⟩
   ·have HAx := HAt.out V ((0,0,0,⟨#[]⟩,tb,nm),.nil) none 0 0 hBV
    dsimp only at HAx
    replace HAx : Hid _ := hid HAx
    clear HAt HX0 hneg hbig es
    go_wp2_with fail
    refine Calls.mono HAx.out ?_
    rintro e w4 ⟨r,er,rfl,hres,hb4⟩
    have hB4 := Below.on hBV hb4
    have hB4w := Below.on hVw hb4
    replace d0 := cell_later hb4 d0
    clear HAx
    rcases hres with ⟨qq,hqq,rfl,rfl,hcl⟩ | ⟨rfl,rfl,hcl⟩
    ·have HZ : Hid (itmP S (4,tb,nm) = 0) := hid (by rw [itm_col (by decide),hcl])
     clear hcl HiP HKi hb4
     go_wp2
     go_roundw
     case rel => exact ⟨i + 1,A + 1,P,by omega,by go_num,by go_num,by go_num,hid (HiN.out HZ.out),hid (by rw [HiF.out]; rfl),by omega,hB4⟩
     case measure => simp only [intOf]; omega
    ·have HT : Hid (R = 10) := hid (by have e : itmP S (4,tb,nm) = 10 := (by rw [itm_col (by decide),hcl]); rw [HiP.out (by rw [e]; decide),e])
     clear HiP HiN HiF hcl HKi
     go_wp2
     go_ret
     exact ⟨ret_int HT.out.symm,hB4w⟩
  ·obtain rfl : i = it1 := by omega
   have hE0 : erL (L.map (itmP S)) = 0 := by have := HE.out; rwa [← HLl.out,List.take_length] at this
   have hAf : A = (L.filter foldP).length := by have := HA.out; rwa [← i1,List.take_length] at this
   have hAL : L.length = A + P := by omega
   have HB11 : Hid (0 < A → 0 < P ∨ 0 < od1 → R = 11) := hid fun h1 h2 => HRf.out hE0 ⟨by omega,by omega⟩
   have HGo : Hid (¬ (0 < A ∧ (0 < P ∨ 0 < od1)) → R = erL [wv,orderKP S O]) := hid fun h => HRw.out hE0 (by omega)
   have HXw : Hid _ := hid (HX0.out wr hB)
   clear HRf HRw HRi HRn HFt HE HA hE0 hAf HLl HX0 HIt2 HKi
   have hPb : P ≤ 500 := by omega
   have hAb : A ≤ 500 := by omega
   by_cases hA0 : A = 0
   ·subst hA0
    have HR2 : Hid _ := hid (HGo.out (by omega))
    clear HGo HB11
    go_wp2_with fail
    refine Calls.mono HXw.out ?_
    rintro e w5 ⟨rfl,hb5⟩
    have hB5 := Below.on hB hb5
    have hB5w := Below.on hBw hb5
    replace z10 := cell_later hb5 z10
    clear HXw hb5
    by_cases hwv : wv = 0
    ·subst hwv
     rcases (by omega : od1 = 0 ∨ od1 = 1) with hoz | hoz
     ·have HT : Hid (R = 0) := hid (by rw [HR2.out,List.length_eq_zero_iff.1 (by omega : O.length = 0)]; rfl)
      subst hoz
      clear HR2 HAt HOd2
      go_wp2
      go_ret
      exact ⟨ret_int HT.out.symm,hB5w⟩
     ·subst hoz
      obtain ⟨x,hx1⟩ : ∃ x,O = [x] := by
       match hm2 : O,o1 with
       | [x],_ => exact ⟨x,rfl⟩
      have hcx : colP1 x = true := by rw [hx1] at hodc; simpa using hodc
      have HT : Hid (R = (clmK S x.1.2.2.2.2.1 x.1.2.2.2.2.2).2) := hid (by
       rw [HR2.out,hx1,← kdT_colK hcx]
       simp only [orderKP,List.map_cons,List.map_nil,erL]
       by_cases h : (kdT S x).2 = 0
       ·simp [h]
       ·simp [h])
      have hRo := HOd2.out w5 hB5
      rw [hx1] at hRo
      obtain ⟨_,_,_,e',_,_,_,hx⟩ := hRo
      cases e'
      obtain ⟨b,o,rfl,-,hxi⟩ := hx (by decide)
      obtain ⟨cs,hE,-,hcc⟩ := hxi 0 (by simp)
      obtain ⟨ya,yn,yc,rfl,hsl⟩ := hE
      simp only [exC] at hcc
      have e0 : w5.cell? ⟨b,o,none⟩ = some (.int .i64 x.1.1) := by simpa using hcc 0 (show 0 < 7 by decide)
      have e1 : w5.cell? ⟨b,o + 1,none⟩ = some (.int .i64 x.1.2.1) := by simpa using hcc 1 (show 1 < 7 by decide)
      have e2 : w5.cell? ⟨b,o + 2,none⟩ = some (.int .i64 x.1.2.2.1) := by simpa using hcc 2 (show 2 < 7 by decide)
      have e3 : w5.cell? ⟨b,o + 3,none⟩ = some (.string x.1.2.2.2.1) := by simpa using hcc 3 (show 3 < 7 by decide)
      have e4 : w5.cell? ⟨b,o + 4,none⟩ = some (.string x.1.2.2.2.2.1) := by simpa using hcc 4 (show 4 < 7 by decide)
      have e5 : w5.cell? ⟨b,o + 5,none⟩ = some (.string x.1.2.2.2.2.2) := by simpa using hcc 5 (show 5 < 7 by decide)
      have e6 : w5.cell? ⟨b,o + 6,none⟩ = some (.slice ya yn yc) := by simpa using hcc 6 (show 6 < 7 by decide)
      have HAx : Hid _ := hid (HAt.out w5 x ya yn yc hB5)
      clear HR2 HAt HOd2 hcc hx hxi hsl hcx hx1
      go_wp2_with fail
      refine Calls.mono HAx.out ?_
      rintro e w6 ⟨r,er,rfl,hres,hb6⟩
      have HT2 : Hid (R = er) := hid (by
       rcases hres with ⟨qq,hqq,rfl,rfl,hcl⟩ | ⟨rfl,rfl,hcl⟩
       ·rw [HT.out,hcl]
       ·rw [HT.out,hcl])
      clear HAx hres HT
      go_wp2
      go_ret
      exact ⟨ret_int HT2.out.symm,Below.on hB5w hb6⟩
    ·have HT : Hid (R = wv) := hid (by rw [HR2.out]; simp [erL,hwv])
     have q1 : decide (wv = 0) = false := by simpa using hwv
     have q2 : (wv != 0) = true := by simpa using hwv
     clear HR2 HAt HOd2
     go_wp2
     go_ret
     exact ⟨ret_int HT.out.symm,hB5w⟩
   ·have g1 : (0 : Int) < (A : Int) := by omega
    by_cases hP0 : P = 0
    ·subst hP0
     have hodc2 : od1 = 0 ∨ od1 = 1 := by omega
     rcases hodc2 with ho0 | ho0
     ·have HR2 : Hid _ := hid (HGo.out (by omega))
      clear HGo HB11
      go_wp2_with fail
      refine Calls.mono HXw.out ?_
      rintro e w5 ⟨rfl,hb5⟩
      have hB5 := Below.on hB hb5
      have hB5w := Below.on hBw hb5
      replace z10 := cell_later hb5 z10
      clear HXw hb5
      by_cases hwv : wv = 0
      ·subst hwv
       rcases (by omega : od1 = 0 ∨ od1 = 1) with hoz | hoz
       ·have HT : Hid (R = 0) := hid (by rw [HR2.out,List.length_eq_zero_iff.1 (by omega : O.length = 0)]; rfl)
        subst hoz
        clear HR2 HAt HOd2
        go_wp2
        go_ret
        exact ⟨ret_int HT.out.symm,hB5w⟩
       ·exfalso; omega
      ·have HT : Hid (R = wv) := hid (by rw [HR2.out]; simp [erL,hwv])
       have q1 : decide (wv = 0) = false := by simpa using hwv
       have q2 : (wv != 0) = true := by simpa using hwv
       clear HR2 HAt HOd2
       go_wp2
       go_ret
       exact ⟨ret_int HT.out.symm,hB5w⟩
     ·have HT : Hid (R = 11) := hid (HB11.out (by omega) (.inr (by omega)))
      subst ho0
      clear HGo HB11 HXw HAt HOd2
      go_wp2
      go_ret
      exact ⟨ret_int HT.out.symm,hBw⟩
    ·have g2 : (0 : Int) < (P : Int) := by omega
     have HT : Hid (R = 11) := hid (HB11.out (by omega) (.inl (by omega)))
     clear HGo HB11 HXw HAt HOd2
     go_wp2
     go_ret
     exact ⟨ret_int HT.out.symm,hBw⟩
end Go.Proofs.YtljmlacnfnmjbaaGreat
