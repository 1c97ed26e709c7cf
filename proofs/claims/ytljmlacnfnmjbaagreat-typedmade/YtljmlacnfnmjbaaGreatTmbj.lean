import Derived.Test.YtljmlacnfnmjbaaGreatTmbi
namespace Go.Proofs.YtljmlacnfnmjbaaGreat
open Go.RowKit
set_option linter.unusedVariables false
set_option linter.unusedSimpArgs false

theorem itmP_at {S : List Cl3} {l : List It} {i : Nat} (hi : i < l.length) (h : i < (l.map (itmP S)).length) : (l.map (itmP S))[i] = itmP S l[i] := by rw [List.getElem_map]
theorem fold_tk {l : List It} {i : Nat} (hi : i < l.length) : ((l.take (i + 1)).filter foldP).length = ((l.take i).filter foldP).length + (if l[i].1 = 0 then 0 else 1) := by
 rw [List.take_succ_eq_append_getElem hi,List.filter_append,List.length_append]
 by_cases h : l[i].1 = 0
 ·have hf : foldP l[i] = false := by unfold foldP; rw [h]; rfl
  simp [List.filter_cons,hf,h]
 ·have hf : foldP l[i] = true := by unfold foldP; simpa using h
  simp [List.filter_cons,hf,h]
theorem kdT_colK {S : List Cl3} {x : Pg × Tg} (h : colP1 x = true) : (kdT S x).2 = (clmK S x.1.2.2.2.2.1 x.1.2.2.2.2.2).2 := by
 unfold colP1 at h
 simp only [Bool.and_eq_true,decide_eq_true_eq] at h
 have hw : wayA x.1.1 = some (0,[],0) := by rw [h.1]; rfl
 rw [kdT_col hw (by rw [h.2]; rfl) (by rw [h.1]; decide) h.1]
theorem itm_bad {S : List Cl3} {ag : Int} {tb nm : ByteArray} (h : ag < 0 ∨ 4 < ag) : itmP S (ag,tb,nm) = 1 := by
 unfold itmP
 dsimp only
 rw [if_neg (by omega),if_neg (by omega)]
theorem itm_one {S : List Cl3} {tb nm : ByteArray} : itmP S (1,tb,nm) = if nm = ⟨#[]⟩ then 0 else 1 := by unfold itmP; rfl
theorem itm_col {S : List Cl3} {ag : Int} {tb nm : ByteArray} (h : ag = 0 ∨ ag = 3 ∨ ag = 4) : itmP S (ag,tb,nm) = (clmK S tb nm).2 := by
 unfold itmP
 dsimp only
 rw [if_neg (by omega),if_pos (by omega),if_neg (by omega)]
theorem itm_sum {S : List Cl3} {tb nm : ByteArray} : itmP S (2,tb,nm) = if (clmK S tb nm).2 = 0 ∧ (clmK S tb nm).1 = 2 then 11 else (clmK S tb nm).2 := by
 unfold itmP
 simp
set_option maxRecDepth 100000 in
set_option maxHeartbeats 4000000 in
theorem selected_one {T : List Tbl} (hT5 : T.length ≤ 500) (hT50 : ∀ t ∈ T,t.cols.length ≤ 50) {t : Tbl} {m : Sq} (hB : SqB m) {w : World} {ta : Option Addr} {tn tc : Nat} {vb : Option Addr} {vm vd : Nat} (hT : RowIs eTbl (fun _ => True) w (.slice ta tn tc) T) {s : Sv} (hm : IsQ w m s) (hlk : lookT T m.table = some t) {ca : Option Addr} {cn cc : Nat} (hc : RowIs eCol (fun _ => True) w (.slice ca cn cc) t.cols) (xa : Option Addr) (xn xc : Nat) (hod1 : m.order.length ≤ 1) (hodc : m.order.all colP1 = true) (hj : m.join = ⟨#[]⟩) (hon : m.on.length = 0) :
  Calls Tryz.prog 37 #[.agg #[.slice ta tn tc,.slice vb vm vd],stV s,.agg #[.string t.name,.slice ca cn cc,.slice xa xn xc]] w fun en w' => en = .returned (.int .i64 (selP T m)) ∧ Below w.heap.size w w' := by
 have ht : t.cols.length ≤ 50 := hT50 t (lookT_mem hlk)
 have hw := bal (bal (bal (Below.refl w.heap.size w) (.cells #[.slice ta tn tc,.slice vb vm vd] 38)) (svO s)) (.cells #[.string t.name,.slice ca cn cc,.slice xa xn xc] 58)
 have bs := ((Bk.new w (.cells #[.slice ta tn tc,.slice vb vm vd] 38)).later (bal (Below.refl _ _) (svO s))).later (bal (Below.refl _ _) (.cells #[.string t.name,.slice ca cn cc,.slice xa xn xc] 58))
 have bq := (Bk.new (w.alloc (.cells #[.slice ta tn tc,.slice vb vm vd] 38)) (svO s)).later (bal (Below.refl _ _) (.cells #[.string t.name,.slice ca cn cc,.slice xa xn xc] 58))
 have bt := Bk.new ((w.alloc (.cells #[.slice ta tn tc,.slice vb vm vd] 38)).alloc (svO s)) (.cells #[.string t.name,.slice ca cn cc,.slice xa xn xc] 58)
 rw [World.size_alloc] at bq
 rw [World.size_alloc,World.size_alloc] at bt
 generalize hW : ((w.alloc (.cells #[.slice ta tn tc,.slice vb vm vd] 38)).alloc (svO s)).alloc (.cells #[.string t.name,.slice ca cn cc,.slice xa xn xc] 58) = W at hw bs bq bt
 replace hm := hm.later hw
 replace hc := hc.keep (by decide) fun b _ hl => hw.block b hl
 replace hT := hT.keep (by decide) fun b _ hl => hw.block b hl
 have z0 := bq.cell 0
 have z1 := bq.cell 1
 have z2 := bq.cell 2
 have z3 := bq.cell 3
 have z4 := bq.cell 4
 have z5 := bq.cell 5
 have z6 := bq.cell 6
 have z7 := bq.cell 7
 have z8 := bq.cell 8
 have z9 := bq.cell 9
 have z10 := bq.cell 10
 have z11 := bq.cell 11
 have z12 := bq.cell 12
 have y0 := bt.cell 0
 have y1 := bt.cell 1
 have y2 := bt.cell 2
 have x0 := bs.cell 0
 have x1 := bs.cell 1
 simp only [List.getElem?_toArray,List.getElem?_cons_zero,List.getElem?_cons_succ] at z0 z1 z2 z3 z4 z5 z6 z7 z8 z9 z10 z11 z12 y0 y1 y2 x0 x1
 have HCo : Hid _ := hid (rcols_any (nm := t.name) (a' := xa) (n' := xn) (c' := xc) hc ht)
 have HIt : Hid (∀ w',Below W.heap.size W w' → RowIs eItem (fun _ => True) w' (.slice s.it.1 s.it.2.1 s.it.2.2) m.items) := hid fun w' hb => (hm.later hb).it
 have HWh : Hid (∀ w',Below W.heap.size W w' → RowIs eG (fun _ => True) w' (.slice s.wh.1 s.wh.2.1 s.wh.2.2) m.wh) := hid fun w' hb => (hm.later hb).wh
 have HOd : Hid (∀ w',Below W.heap.size W w' → RowIs eG (fun _ => True) w' (.slice s.od.1 s.od.2.1 s.od.2.2) m.order) := hid fun w' hb => (hm.later hb).od
 have HOn : Hid (∀ w',Below W.heap.size W w' → RowIs eG (fun _ => True) w' (.slice s.on.1 s.on.2.1 s.on.2.2) m.on) := hid fun w' hb => (hm.later hb).on
 obtain ⟨i1,i2,i3⟩ := hm.it.lens
 obtain ⟨o1,o2,o3⟩ := hm.od.lens
 obtain ⟨n1,n2,n3⟩ := hm.on.lens
 have hI5 := hB.it
 have ktb := hm.tb
 have kjn := hm.jn
 rw [ktb] at z1
 rw [kjn] at z7
 have HS0 : Hid (selP T m = erL [itmsP (colsT t) m.items m.order.length,whP (colsT t) m.wh,orderKP (colsT t) m.order]) := hid (by
  have hn : namesP m = [m.table] := by unfold namesP; rw [if_pos hj]
  have hE : fromE T m = 0 := by unfold fromE overE; rw [hn]; simp [lookE,hlk,erL,hj]
  have hC : fromC T m = colsT t := by unfold fromC overC; rw [hn]; simp [List.filterMap_cons,hlk]
  have ho : onCP (colsT t) m.on = 0 := by rw [List.length_eq_zero_iff] at hon; rw [hon]; rfl
  unfold selP
  rw [hE,hC,if_neg (by decide),erL,if_pos ho])
 obtain ⟨sk,stb,snm,sco,sta,sva,⟨it0,it1,it2⟩,sjn,⟨on0,on1,on2⟩,⟨wh0,wh1,wh2⟩,⟨od0,od1,od2⟩,sds,sinn⟩ := s
 dsimp only [stV,svO] at *
 subst ktb
 subst kjn
 clear bs bq bt hm hB hc
 generalize selP T m = R at *
 rw [hj] at z7 hW ⊢
 clear hj
 go_enter Tryz.func37,Tryz.ntmps37
 go_upto_region 1 with fail
 clear hW
 obtain ⟨q,hq⟩ : ∃ q,w.heap.size = q := ⟨_,rfl⟩
 have Hq : Hid _ := hid hq
 simp only [World.size_alloc,hq] at z0 z1 z6 z7 z8 z9 z10 y0 y1 y2 x0 x1 ⊢
 clear hq
 generalize hq1 : q + 1 = q1 at *
 generalize hq2 : q1 + 1 = q2 at *
 have Hq1 : Hid _ := hid hq1
 have Hq2 : Hid _ := hid hq2
 clear hq1 hq2
 go_wp2_with fail
 refine Calls.mono HCo.out ?_
 rintro e U ⟨v1,v2,rfl,ho1,ho2,hap,hbU⟩
 obtain ⟨ia,im,ic,rfl⟩ := ho1.sl
 obtain ⟨ka,km,kc,rfl⟩ := ho2.sl
 have hwU : Below w.heap.size w U := Below.on hw hbU
 replace z0 := cell_later hbU z0
 replace z1 := cell_later hbU z1
 replace z6 := cell_later hbU z6
 replace z7 := cell_later hbU z7
 replace z8 := cell_later hbU z8
 replace z9 := cell_later hbU z9
 replace z10 := cell_later hbU z10
 replace x0 := cell_later hbU x0
 replace x1 := cell_later hbU x1
 clear HCo z2 z3 z4 z5 z11 z12 y0 y1 y2
 have HR : Hid _ := HS0
 clear HS0 x0 x1 z8 n1 n2 n3
 have R1 : Hid _ := hid (row_itT ho1)
 have R2 : Hid _ := hid (row_kiT ho2)
 have HPS0 : Hid (pairP (itT t) (kiT t) = colsT t) := hid (pairT t)
 have hC5 : (itT t).length ≤ 500 := by rw [itT_len]; omega
 have hK5 : (kiT t).length ≤ 500 := by rw [kiT_len]; omega
 clear ho1 ho2 hap
 obtain ⟨S,hS⟩ : ∃ S,colsT t = S := ⟨_,rfl⟩
 rw [hS] at HR
 have HPS : Hid (pairP (itT t) (kiT t) = S) := hid (by rw [← hS]; exact HPS0.out)
 clear hS HPS0
 obtain ⟨C,hC⟩ : ∃ C,itT t = C := ⟨_,rfl⟩
 obtain ⟨K,hK⟩ : ∃ K,kiT t = K := ⟨_,rfl⟩
 rw [hC] at R1 HPS hC5
 rw [hK] at R2 HPS hK5
 clear hC hK
 have lK := R2.out.lens
 have lC := R1.out.lens
 have HX0 : Hid (∀ w',Below U.heap.size U w' → Calls Tryz.prog 74 #[.slice ia im ic,.slice ka km kc,.slice wh0 wh1 wh2] w' fun en w'' => en = .returned (.int .i64 (whP S m.wh)) ∧ Below w'.heap.size w' w'') := hid fun w' hb => by
  have := rwhere_any hC5 hK5 (R1.out.keep (by decide) fun b _ hl => hb.block b hl) (R2.out.keep (by decide) fun b _ hl => hb.block b hl) (HWh.out w' (Below.on hbU hb))
  rwa [HPS.out] at this
 have HAt : Hid (∀ w' (x : Pg × Tg) (ea : Option Addr) (en ec : Nat),Below U.heap.size U w' → Calls Tryz.prog 27 #[.slice ia im ic,.int .i64 (km : Int),.agg #[.int .i64 x.1.1,.int .i64 x.1.2.1,.int .i64 x.1.2.2.1,.string x.1.2.2.2.1,.string x.1.2.2.2.2.1,.string x.1.2.2.2.2.2,.slice ea en ec]] w' fun e w'' => ∃ r er,e = .returned (.tuple #[.int .i64 r,.int .i64 er]) ∧ ((∃ q : Nat,∃ hq : q < K.length,r = q ∧ er = 0 ∧ clmK S x.1.2.2.2.2.1 x.1.2.2.2.2.2 = (K[q],0)) ∨ (r = -1 ∧ er = 10 ∧ clmK S x.1.2.2.2.2.1 x.1.2.2.2.2.2 = (0,10))) ∧ Below w'.heap.size w' w'') := hid fun w' x ea en ec hb => by
  refine Calls.mono (at_any hC5 km (by omega) x (R1.out.keep (by decide) fun b _ hl => hb.block b hl) ea en ec) ?_
  rintro e w'' ⟨r,er,rfl,ha,hb2⟩
  have := ha K lK.1
  rw [HPS.out] at this
  exact ⟨r,er,rfl,this,hb2⟩
 have HKi : Hid (∀ w',Below U.heap.size U w' → RowIs eInt (fun _ => True) w' (.slice ka km kc) K) := hid fun w' hb => R2.out.keep (by decide) fun b _ hl => hb.block b hl
 have HIt2 : Hid (∀ w',Below U.heap.size U w' → RowIs eItem (fun _ => True) w' (.slice it0 it1 it2) m.items) := hid fun w' hb => HIt.out w' (Below.on hbU hb)
 have HOd2 : Hid (∀ w',Below U.heap.size U w' → RowIs eG (fun _ => True) w' (.slice od0 od1 od2) m.order) := hid fun w' hb => HOd.out w' (Below.on hbU hb)
 clear HIt HWh HOd HOn R1 R2 HPS hbU
 have hC500 : im ≤ 500 := by omega
 obtain ⟨L,hL⟩ : ∃ L,m.items = L := ⟨_,rfl⟩
 rw [hL] at HIt2 i1 hI5 HR
 obtain ⟨O,hO⟩ : ∃ O,m.order = O := ⟨_,rfl⟩
 rw [hO] at HOd2 o1 HR hod1 hodc
 clear hL hO
 have HLl : Hid ((L.map (itmP S)).length = it1) := hid (by rw [List.length_map,i1])
 have HRe : Hid (erL (L.map (itmP S)) ≠ 0 → R = erL (L.map (itmP S))) := hid fun h => by rw [HR.out,itmsP,if_pos h]; simp [erL,h]
 have HRf : Hid (erL (L.map (itmP S)) = 0 → 0 < (L.filter foldP).length ∧ ((L.filter foldP).length < L.length ∨ 0 < O.length) → R = 11) := hid fun h h2 => by rw [HR.out,itmsP,if_neg (by simpa using h),if_pos h2]; rfl
 have HRw : Hid (erL (L.map (itmP S)) = 0 → ¬ (0 < (L.filter foldP).length ∧ ((L.filter foldP).length < L.length ∨ 0 < O.length)) → R = erL [whP S m.wh,orderKP S O]) := hid fun h h2 => by rw [HR.out,itmsP,if_neg (by simpa using h),if_neg h2,erL,if_pos rfl]
 have HRi : Hid (∀ i (h : i < L.length),erL ((L.map (itmP S)).take i) = 0 → itmP S L[i] ≠ 0 → R = itmP S L[i]) := hid fun i h h0 h1 => by
  have hl : i < (L.map (itmP S)).length := by rw [List.length_map]; exact h
  have e := erL_st hl h0 (by rw [itmP_at h]; exact h1)
  rw [itmP_at h] at e
  rw [HRe.out (by rw [e]; exact h1),e]
 have HRn : Hid (∀ i (h : i < L.length),erL ((L.map (itmP S)).take i) = 0 → itmP S L[i] = 0 → erL ((L.map (itmP S)).take (i + 1)) = 0) := hid fun i h h0 h1 => erL_tk (by rw [List.length_map]; exact h) h0 (by rw [itmP_at h]; exact h1)
 have HFt : Hid (∀ i (h : i < L.length),((L.take (i + 1)).filter foldP).length = ((L.take i).filter foldP).length + (if L[i].1 = 0 then 0 else 1)) := hid fun i h => fold_tk h
 clear HR HRe
 generalize whP S m.wh = wv at *
 go_upto_region 22 with fail
 go_loopw [17,18,19] (fun v17 v18 v19 wr => ∃ (i A P : Nat),i ≤ it1 ∧ v17 = .int .i64 (A : Int) ∧ v18 = .int .i64 (P : Int) ∧ v19 = .int .i64 (i : Int) ∧ Hid (erL ((L.map (itmP S)).take i) = 0) ∧ Hid (A = ((L.take i).filter foldP).length) ∧ A + P = i ∧ Below U.heap.size U wr) (fun _ _ i _ => it1 - (intOf i).toNat)
 case atStart => exact ⟨0,0,0,Nat.zero_le _,rfl,rfl,rfl,hid (by rw [List.take_zero]; rfl),hid (by rw [List.take_zero]; rfl),rfl,Below.refl _ _⟩
 case round =>
  obtain ⟨i,A,P,hi,rfl,rfl,rfl,HE,HA,hAP,hB⟩ := hrel
  replace z6 := cell_later hB z6
  replace z9 := cell_later hB z9
  replace z10 := cell_later hB z10
  have hBw := Below.on hwU hB
  by_cases hlt : i < it1
  ·have hiL : i < L.length := by omega
   obtain ⟨_,_,_,e',_,_,_,hx⟩ := HIt2.out wr hB
   cases e'
   obtain ⟨b,o,rfl,-,hxi⟩ := hx (by omega)
   obtain ⟨cs,hE,-,hcc⟩ := hxi i hiL
   have hE' : cs = [.int .i64 L[i].1,.string L[i].2.1,.string L[i].2.2] := hE
   subst hE'
   have c0 : wr.cell? ⟨b,o + i * 3,none⟩ = some (.int .i64 L[i].1) := hcc 0 (show 0 < 3 by decide)
   have c1 : wr.cell? ⟨b,o + i * 3 + 1,none⟩ = some (.string L[i].2.1) := hcc 1 (show 1 < 3 by decide)
   have c2 : wr.cell? ⟨b,o + i * 3 + 2,none⟩ = some (.string L[i].2.2) := hcc 2 (show 2 < 3 by decide)
   have gi : (i : Int) < (it1 : Int) := by omega
   have HiP : Hid (itmP S L[i] ≠ 0 → R = itmP S L[i]) := hid (HRi.out i hiL HE.out)
   have HiN : Hid (itmP S L[i] = 0 → erL ((L.map (itmP S)).take (i + 1)) = 0) := hid (HRn.out i hiL HE.out)
   have HiF : Hid (((L.take (i + 1)).filter foldP).length = A + (if L[i].1 = 0 then 0 else 1)) := hid (by rw [HFt.out i hiL,← HA.out])
   generalize hLi : L[i] = it at *
   obtain ⟨ag,tb,nm⟩ := it
   dsimp only at *
   have HLi : Hid _ := hid hLi
   clear hLi hE hcc hx hxi HRi HRn HFt HE HA
   go_upto_region 25 with fail
   have bx := Bk.new wr (.cells #[.int .i64 ag,.string tb,.string nm] 66)
   have hb1 := bal (Below.refl wr.heap.size wr) (.cells #[.int .i64 ag,.string tb,.string nm] 66)
   generalize wr.alloc (.cells #[.int .i64 ag,.string tb,.string nm] 66) = V at bx hb1 ⊢
   have hBV := Below.on hB hb1
   have hVw := Below.on hBw hb1
   have d0 := bx.cell 0
   have d1 := bx.cell 1
   have d2 := bx.cell 2
   simp only [List.getElem?_toArray,List.getElem?_cons_zero,List.getElem?_cons_succ] at d0 d1 d2
   clear hb1 bx c0 c1 c2 z6 z9 z10
   generalize wr.heap.size = p at d0 d1 d2 ⊢
   have hPb : P ≤ 500 := by omega
   have hAb : A ≤ 500 := by omega
   by_cases hneg : ag < 0
   ·have HT : Hid (R = 1) := hid (by have e := itm_bad (S := S) (tb := tb) (nm := nm) (.inl hneg); rw [HiP.out (by rw [e]; decide),e])
    have g1 : decide (ag < 0) = true := by simpa using hneg
    clear HiP HiN HiF HAt HX0 HKi
    go_wp2
    go_ret
    exact ⟨ret_int HT.out.symm,hVw⟩
   by_cases hbig : 4 < ag
   ·have HT : Hid (R = 1) := hid (by have e := itm_bad (S := S) (tb := tb) (nm := nm) (.inr hbig); rw [HiP.out (by rw [e]; decide),e])
    have g1 : decide (ag < 0) = false := by simpa using hneg
    have g2 : decide (4 < ag) = true := by simpa using hbig
    clear HiP HiN HiF HAt HX0 HKi
    go_wp2
    go_ret
    exact ⟨ret_int HT.out.symm,hVw⟩
   have es := empty_str nm
   rcases (by omega : ag = 1 ∨ ag = 0 ∨ ag = 2 ∨ ag = 3 ∨ ag = 4) with rfl | rfl | rfl | rfl | rfl
   ·clear HAt HX0 HKi hneg hbig
    by_cases hnm : nm = ⟨#[]⟩
    ·have eb : nm.toList.isEmpty = true := by rw [es]; simpa using hnm
     have HZ : Hid (itmP S (1,tb,nm) = 0) := hid (by rw [itm_one,if_pos hnm])
     clear es hnm
     go_wp2
     go_roundw
     case rel => exact ⟨i + 1,A + 1,P,by omega,by go_num,by go_num,by go_num,hid (HiN.out HZ.out),hid (by rw [HiF.out]; rfl),by omega,hBV⟩
     case measure => simp only [intOf]; omega
    ·have eb : nm.toList.isEmpty = false := by rw [es]; simpa using hnm
     have HT : Hid (R = 1) := hid (by have e : itmP S (1,tb,nm) = 1 := (by rw [itm_one,if_neg hnm]); rw [HiP.out (by rw [e]; decide),e])
     clear es hnm HiP HiN HiF
     go_wp2
     go_ret
     exact ⟨ret_int HT.out.symm,hVw⟩
   ·have HAx := HAt.out V ((0,0,0,⟨#[]⟩,tb,nm),.nil) none 0 0 hBV
    dsimp only at HAx
    replace HAx : Hid _ := hid HAx
    clear HAt HX0 hneg hbig es
    go_wp2_with fail
    refine Calls.mono HAx.out ?_
    rintro e w4 ⟨r,er,rfl,hres,hb4⟩
    have hB4 := Below.on hBV hb4
    have hB4w := Below.on hVw hb4
    replace d0 := cell_later hb4 d0
    clear HAx
    rcases hres with ⟨qq,hqq,rfl,rfl,hcl⟩ | ⟨rfl,rfl,hcl⟩
    ·have HZ : Hid (itmP S (0,tb,nm) = 0) := hid (by rw [itm_col (by decide),hcl])
     clear hcl HiP HKi hb4
     go_wp2
     go_roundw
     case rel => exact ⟨i + 1,A,P + 1,by omega,by go_num,by go_num,by go_num,hid (HiN.out HZ.out),hid (by rw [HiF.out]; rfl),by omega,hB4⟩
     case measure => simp only [intOf]; omega
    ·have HT : Hid (R = 10) := hid (by have e : itmP S (0,tb,nm) = 10 := (by rw [itm_col (by decide),hcl]); rw [HiP.out (by rw [e]; decide),e])
     clear HiP HiN HiF hcl HKi
     go_wp2
     go_ret
     exact ⟨ret_int HT.out.symm,hB4w⟩
   ·have HAx := HAt.out V ((0,0,0,⟨#[]⟩,tb,nm),.nil) none 0 0 hBV
    dsimp only at HAx
    replace HAx : Hid _ := hid HAx
    clear HAt HX0 hneg hbig es
    go_wp2_with fail
    refine Calls.mono HAx.out ?_
    rintro e w4 ⟨r,er,rfl,hres,hb4⟩
    have hB4 := Below.on hBV hb4
    have hB4w := Below.on hVw hb4
    replace d0 := cell_later hb4 d0
    clear HAx
    rcases hres with ⟨qq,hqq,rfl,rfl,hcl⟩ | ⟨rfl,rfl,hcl⟩
    ·obtain ⟨_,_,_,e',_,_,_,hx⟩ := HKi.out w4 hB4
     cases e'
     obtain ⟨kb,ko,rfl,-,hxi⟩ := hx (by omega)
     obtain ⟨cs,hE,-,hcc⟩ := hxi qq hqq
     have hE' : cs = [.int .i64 K[qq]] := hE
     subst hE'
     have k0 : w4.cell? ⟨kb,ko + qq,none⟩ = some (.int .i64 K[qq]) := by simpa [eInt] using hcc 0 (show 0 < 1 by decide)
     have gq : (qq : Int) < (km : Int) := by omega
     have HI2 : Hid (itmP S (2,tb,nm) = if K[qq] = 2 then 11 else 0) := hid (by rw [itm_sum,hcl]; simp)
     generalize K[qq] = kv at *
     clear hcc hx hxi hE hcl HKi hb4
     by_cases hkv : kv = 2
     ·subst hkv
      have HT : Hid (R = 11) := hid (by have e : itmP S (2,tb,nm) = 11 := (by rw [HI2.out,if_pos rfl]); rw [HiP.out (by rw [e]; decide),e])
      clear HiP HiN HiF HI2
      go_wp2
      go_ret
      exact ⟨ret_int HT.out.symm,hB4w⟩
     ·have q1 : decide (kv = 2) = false := by simpa using hkv
      have q2 : (kv == 2) = false := by simpa using hkv
      have HZ : Hid (itmP S (2,tb,nm) = 0) := hid (by rw [HI2.out,if_neg hkv])
      clear HiP HI2
      go_wp2
      go_roundw
      case rel => exact ⟨i + 1,A + 1,P,by omega,by go_num,by go_num,by go_num,hid (HiN.out HZ.out),hid (by rw [HiF.out]; rfl),by omega,hB4⟩
      case measure => simp only [intOf]; omega
    ·have HT : Hid (R = 10) := hid (by have e : itmP S (2,tb,nm) = 10 := (by rw [itm_sum,hcl]; rfl); rw [HiP.out (by rw [e]; decide),e])
     clear HiP HiN HiF hcl HKi
     go_wp2
     go_ret
     exact ⟨ret_int HT.out.symm,hB4w⟩
   ·have HAx := HAt.out V ((0,0,0,⟨#[]⟩,tb,nm),.nil) none 0 0 hBV
    dsimp only at HAx
    replace HAx : Hid _ := hid HAx
    clear HAt HX0 hneg hbig es
    go_wp2_with fail
    refine Calls.mono HAx.out ?_
    rintro e w4 ⟨r,er,rfl,hres,hb4⟩
    have hB4 := Below.on hBV hb4
    have hB4w := Below.on hVw hb4
    replace d0 := cell_later hb4 d0
    clear HAx
    rcases hres with ⟨qq,hqq,rfl,rfl,hcl⟩ | ⟨rfl,rfl,hcl⟩
    ·have HZ : Hid (itmP S (3,tb,nm) = 0) := hid (by rw [itm_col (by decide),hcl])
     clear hcl HiP HKi hb4
     go_wp2
     go_roundw
     case rel => exact ⟨i + 1,A + 1,P,by omega,by go_num,by go_num,by go_num,hid (HiN.out HZ.out),hid (by rw [HiF.out]; rfl),by omega,hB4⟩
     case measure => simp only [intOf]; omega
    ·have HT : Hid (R = 10) := hid (by have e : itmP S (3,tb,nm) = 10 := (by rw [itm_col (by decide),hcl]); rw [HiP.out (by rw [e]; decide),e])
     clear HiP HiN HiF hcl HKi
     go_wp2
     go_ret
     exact ⟨ret_int HT.out.symm,hB4w⟩
   ·have HAx := HAt.out V ((0,0,0,⟨#[]⟩,tb,nm),.nil) none 0 0 hBV
    dsimp only at HAx
    replace HAx : Hid _ := hid HAx
    clear HAt HX0 hneg hbig es
    go_wp2_with fail
    refine Calls.mono HAx.out ?_
    rintro e w4 ⟨r,er,rfl,hres,hb4⟩
    have hB4 := Below.on hBV hb4
    have hB4w := Below.on hVw hb4
    replace d0 := cell_later hb4 d0
    clear HAx
    rcases hres with ⟨qq,hqq,rfl,rfl,hcl⟩ | ⟨rfl,rfl,hcl⟩
    ·have HZ : Hid (itmP S (4,tb,nm) = 0) := hid (by rw [itm_col (by decide),hcl])
     clear hcl HiP HKi hb4
     go_wp2
     go_roundw
     case rel => exact ⟨i + 1,A + 1,P,by omega,by go_num,by go_num,by go_num,hid (HiN.out HZ.out),hid (by rw [HiF.out]; rfl),by omega,hB4⟩
     case measure => simp only [intOf]; omega
    ·have HT : Hid (R = 10) := hid (by have e : itmP S (4,tb,nm) = 10 := (by rw [itm_col (by decide),hcl]); rw [HiP.out (by rw [e]; decide),e])
     clear HiP HiN HiF hcl HKi
     go_wp2
     go_ret
     exact ⟨ret_int HT.out.symm,hB4w⟩
  ·obtain rfl : i = it1 := by omega
   have hE0 : erL (L.map (itmP S)) = 0 := by have := HE.out; rwa [← HLl.out,List.take_length] at this
   have hAf : A = (L.filter foldP).length := by have := HA.out; rwa [← i1,List.take_length] at this
   have hAL : L.length = A + P := by omega
   have HB11 : Hid (0 < A → 0 < P ∨ 0 < od1 → R = 11) := hid fun h1 h2 => HRf.out hE0 ⟨by omega,by omega⟩
   have HGo : Hid (¬ (0 < A ∧ (0 < P ∨ 0 < od1)) → R = erL [wv,orderKP S O]) := hid fun h => HRw.out hE0 (by omega)
   have HXw : Hid _ := hid (HX0.out wr hB)
   clear HRf HRw HRi HRn HFt HE HA hE0 hAf HLl HX0 HIt2 HKi
   have hPb : P ≤ 500 := by omega
   have hAb : A ≤ 500 := by omega
   by_cases hA0 : A = 0
   ·subst hA0
    have HR2 : Hid _ := hid (HGo.out (by omega))
    clear HGo HB11
    go_wp2_with fail
    refine Calls.mono HXw.out ?_
    rintro e w5 ⟨rfl,hb5⟩
    have hB5 := Below.on hB hb5
    have hB5w := Below.on hBw hb5
    replace z10 := cell_later hb5 z10
    clear HXw hb5
    by_cases hwv : wv = 0
    ·subst hwv
     rcases (by omega : od1 = 0 ∨ od1 = 1) with hoz | hoz
     ·have HT : Hid (R = 0) := hid (by rw [HR2.out,List.length_eq_zero_iff.1 (by omega : O.length = 0)]; rfl)
      subst hoz
      clear HR2 HAt HOd2
      go_wp2
      go_ret
      exact ⟨ret_int HT.out.symm,hB5w⟩
     ·subst hoz
      obtain ⟨x,hx1⟩ : ∃ x,O = [x] := by
       match hm2 : O,o1 with
       | [x],_ => exact ⟨x,rfl⟩
      have hcx : colP1 x = true := by rw [hx1] at hodc; simpa using hodc
      have HT : Hid (R = (clmK S x.1.2.2.2.2.1 x.1.2.2.2.2.2).2) := hid (by
       rw [HR2.out,hx1,← kdT_colK hcx]
       simp only [orderKP,List.map_cons,List.map_nil,erL]
       by_cases h : (kdT S x).2 = 0
       ·simp [h]
       ·simp [h])
      have hRo := HOd2.out w5 hB5
      rw [hx1] at hRo
      obtain ⟨_,_,_,e',_,_,_,hx⟩ := hRo
      cases e'
      obtain ⟨b,o,rfl,-,hxi⟩ := hx (by decide)
      obtain ⟨cs,hE,-,hcc⟩ := hxi 0 (by simp)
      obtain ⟨ya,yn,yc,rfl,hsl⟩ := hE
      simp only [exC] at hcc
      have e0 : w5.cell? ⟨b,o,none⟩ = some (.int .i64 x.1.1) := by simpa using hcc 0 (show 0 < 7 by decide)
      have e1 : w5.cell? ⟨b,o + 1,none⟩ = some (.int .i64 x.1.2.1) := by simpa using hcc 1 (show 1 < 7 by decide)
      have e2 : w5.cell? ⟨b,o + 2,none⟩ = some (.int .i64 x.1.2.2.1) := by simpa using hcc 2 (show 2 < 7 by decide)
      have e3 : w5.cell? ⟨b,o + 3,none⟩ = some (.string x.1.2.2.2.1) := by simpa using hcc 3 (show 3 < 7 by decide)
      have e4 : w5.cell? ⟨b,o + 4,none⟩ = some (.string x.1.2.2.2.2.1) := by simpa using hcc 4 (show 4 < 7 by decide)
      have e5 : w5.cell? ⟨b,o + 5,none⟩ = some (.string x.1.2.2.2.2.2) := by simpa using hcc 5 (show 5 < 7 by decide)
      have e6 : w5.cell? ⟨b,o + 6,none⟩ = some (.slice ya yn yc) := by simpa using hcc 6 (show 6 < 7 by decide)
      have HAx : Hid _ := hid (HAt.out w5 x ya yn yc hB5)
      clear HR2 HAt HOd2 hcc hx hxi hsl hcx hx1
      go_wp2_with fail
      refine Calls.mono HAx.out ?_
      rintro e w6 ⟨r,er,rfl,hres,hb6⟩
      have HT2 : Hid (R = er) := hid (by
       rcases hres with ⟨qq,hqq,rfl,rfl,hcl⟩ | ⟨rfl,rfl,hcl⟩
       ·rw [HT.out,hcl]
       ·rw [HT.out,hcl])
      clear HAx hres HT
      go_wp2
      go_ret
      exact ⟨ret_int HT2.out.symm,Below.on hB5w hb6⟩
    ·have HT : Hid (R = wv) := hid (by rw [HR2.out]; simp [erL,hwv])
     have q1 : decide (wv = 0) = false := by simpa using hwv
     have q2 : (wv != 0) = true := by simpa using hwv
     clear HR2 HAt HOd2
     go_wp2
     go_ret
     exact ⟨ret_int HT.out.symm,hB5w⟩
   ·have g1 : (0 : Int) < (A : Int) := by omega
    by_cases hP0 : P = 0
    ·subst hP0
     have hodc2 : od1 = 0 ∨ od1 = 1 := by omega
     rcases hodc2 with ho0 | ho0
     ·have HR2 : Hid _ := hid (HGo.out (by omega))
      clear HGo HB11
      go_wp2_with fail
      refine Calls.mono HXw.out ?_
      rintro e w5 ⟨rfl,hb5⟩
      have hB5 := Below.on hB hb5
      have hB5w := Below.on hBw hb5
      replace z10 := cell_later hb5 z10
      clear HXw hb5
      by_cases hwv : wv = 0
      ·subst hwv
       rcases (by omega : od1 = 0 ∨ od1 = 1) with hoz | hoz
       ·have HT : Hid (R = 0) := hid (by rw [HR2.out,List.length_eq_zero_iff.1 (by omega : O.length = 0)]; rfl)
        subst hoz
        clear HR2 HAt HOd2
        go_wp2
        go_ret
        exact ⟨ret_int HT.out.symm,hB5w⟩
       ·exfalso; omega
      ·have HT : Hid (R = wv) := hid (by rw [HR2.out]; simp [erL,hwv])
       have q1 : decide (wv = 0) = false := by simpa using hwv
       have q2 : (wv != 0) = true := by simpa using hwv
       clear HR2 HAt HOd2
       go_wp2
       go_ret
       exact ⟨ret_int HT.out.symm,hB5w⟩
     ·have HT : Hid (R = 11) := hid (HB11.out (by omega) (.inr (by omega)))
      subst ho0
      clear HGo HB11 HXw HAt HOd2
      go_wp2
      go_ret
      exact ⟨ret_int HT.out.symm,hBw⟩
    ·have g2 : (0 : Int) < (P : Int) := by omega
     have HT : Hid (R = 11) := hid (HB11.out (by omega) (.inl (by omega)))
     clear HGo HB11 HXw HAt HOd2
     go_wp2
     go_ret
     exact ⟨ret_int HT.out.symm,hBw⟩

end Go.Proofs.YtljmlacnfnmjbaaGreat
