import Derived.Test.YtljmlacnfnmjbaaGreatTmbl
import Derived.Test.YtljmlacnfnmjbaaGreatTmbk
namespace Go.Proofs.YtljmlacnfnmjbaaGreat
open Go.RowKit
set_option linter.unusedVariables false
set_option linter.unusedSimpArgs false

def updDP (T : List Tbl) (m : Sq) : Int := match lookT T m.table with | none => 9 | some t => updD t m
theorem delP_none {T : List Tbl} {m : Sq} (h : lookT T m.table = none) : delP T m = 9 := by unfold delP overE; simp [lookE,h,erL]
theorem delP_some {T : List Tbl} {m : Sq} {t : Tbl} (h : lookT T m.table = some t) : delP T m = whP (colsT t) m.wh := by
 unfold delP overE overC; simp [lookE,h,erL]
set_option maxRecDepth 100000 in
set_option maxHeartbeats 4000000 in
theorem rcheck_5 {T : List Tbl} {m : Sq} (hB : SqB m) {w : World} {ta : Option Addr} {tn tc : Nat} {vb : Option Addr} {vm vd : Nat} (hT : IsT w T ta tn tc) {s : Sv} (hm : IsQ w m s) (hk : m.kind = 5) (hT5 : T.length ≤ 500) (hT50 : ∀ t ∈ T,t.cols.length ≤ 50) :
  Calls Tryz.prog 16 #[.agg #[.slice ta tn tc,.slice vb vm vd],stV s] w fun en w' => en = .returned (.int .i64 (if formP m s.inn.2.1 then insP T m else 1)) ∧ Below w.heap.size w w' := by
 have hw := bal (bal (Below.refl w.heap.size w) (.cells #[.slice ta tn tc,.slice vb vm vd] 38)) (svO s)
 have bs := (Bk.new w (.cells #[.slice ta tn tc,.slice vb vm vd] 38)).later (bal (Below.refl _ _) (svO s))
 have bq := Bk.new (w.alloc (.cells #[.slice ta tn tc,.slice vb vm vd] 38)) (svO s)
 rw [World.size_alloc] at bq
 generalize hW : (w.alloc (.cells #[.slice ta tn tc,.slice vb vm vd] 38)).alloc (svO s) = W at hw bs bq
 replace hT := hT.later hw
 replace hm := hm.later hw
 have y0 := bs.cell 0
 have y1 := bs.cell 1
 have z0 := bq.cell 0
 have z1 := bq.cell 1
 have z2 := bq.cell 2
 have z3 := bq.cell 3
 have z4 := bq.cell 4
 have z5 := bq.cell 5
 have z6 := bq.cell 6
 have z7 := bq.cell 7
 have z8 := bq.cell 8
 have z9 := bq.cell 9
 have z10 := bq.cell 10
 have z11 := bq.cell 11
 have z12 := bq.cell 12
 simp only [List.getElem?_toArray,List.getElem?_cons_zero,List.getElem?_cons_succ] at y0 y1 z0 z1 z2 z3 z4 z5 z6 z7 z8 z9 z10 z11 z12
 have HFo : Hid _ := hid (lists_5 hB hm hk)
 have HTb : Hid (∀ w',Below W.heap.size W w' → _) := hid fun w' hb => rtable_any hT5 m.table (hT.row.keep (by decide) fun b _ hl => hb.block b hl) vb vm vd
 have HN : Hid (lookT T m.table = none → insP T m = 9) := hid fun hl => by unfold insP; rw [hl]
 have HM : Hid (formP m s.inn.2.1 = true → ∀ t,lookT T m.table = some t → ∀ (w' : World) (ca : Option Addr) (cn cc : Nat) (xa : Option Addr) (xn xc : Nat),Below W.heap.size W w' → RowIs eCol (fun _ => True) w' (.slice ca cn cc) t.cols → Calls Tryz.prog 38 #[stV s,.agg #[.string t.name,.slice ca cn cc,.slice xa xn xc]] w' fun en w'' => en = .returned (.int .i64 (insP T m)) ∧ Below w'.heap.size w' w'') := hid fun hf t hl w' ca cn cc xa xn xc hb hc => by
  have := writes_5 (hT50 t (lookT_mem hl)) hB (hm.later hb) hc xa xn xc hk; rwa [show insT t m = insP T m from by unfold insP; rw [hl]] at this
 obtain ⟨R,hR⟩ : ∃ R,insP T m = R := ⟨_,rfl⟩
 rw [hR]
 rw [hR] at HN HM
 have k0 : s.k = 5 := by rw [hm.k,hk]
 rw [k0] at z0
 have k1 : s.tb = m.table := hm.tb
 rw [k1] at z1
 generalize formP m s.inn.2.1 = B at *
 generalize lookT T m.table = lk at *
 clear hT bs bq hB hk hR hT50
 obtain ⟨sk,stb,snm,⟨co0,co1,co2⟩,⟨ta0,ta1,ta2⟩,⟨va0,va1,va2⟩,⟨it0,it1,it2⟩,sjn,⟨on0,on1,on2⟩,⟨wh0,wh1,wh2⟩,⟨od0,od1,od2⟩,sds,⟨in0,in1,in2⟩⟩ := s
 dsimp only [stV,svO] at *
 subst k0
 subst k1
 clear hm
 cases B with
 | false =>
  clear HM HN HTb
  go_enter Tryz.func16,Tryz.ntmps16
  go_upto_region 1 with fail
  go_wp2_with fail
  refine Calls.mono HFo.out ?_
  rintro e w4 ⟨rfl,hb4⟩
  clear HFo
  go_wp2
  go_ret
  exact ⟨rfl,Below.on hw hb4⟩
 | true =>
  replace HM : Hid _ := hid (HM.out rfl)
  go_enter Tryz.func16,Tryz.ntmps16
  go_upto_region 1 with fail
  go_wp2_with fail
  refine Calls.mono HFo.out ?_
  rintro e w4 ⟨rfl,hb4⟩
  have HT4 : Hid _ := hid (HTb.out w4 hb4)
  replace HM : Hid (∀ t,lk = some t → ∀ (w' : World) (ca : Option Addr) (cn cc : Nat) (xa : Option Addr) (xn xc : Nat),Below w4.heap.size w4 w' → RowIs eCol (fun _ => True) w' (.slice ca cn cc) t.cols → _) := hid fun t hl w' ca cn cc xa xn xc hb hc => HM.out t hl w' ca cn cc xa xn xc (Below.on hb4 hb) hc
  replace y0 := cell_later hb4 y0
  replace y1 := cell_later hb4 y1
  replace z0 := cell_later hb4 z0
  replace z1 := cell_later hb4 z1
  replace z2 := cell_later hb4 z2
  replace z3 := cell_later hb4 z3
  replace z4 := cell_later hb4 z4
  replace z5 := cell_later hb4 z5
  replace z6 := cell_later hb4 z6
  replace z7 := cell_later hb4 z7
  replace z8 := cell_later hb4 z8
  replace z9 := cell_later hb4 z9
  replace z10 := cell_later hb4 z10
  replace z11 := cell_later hb4 z11
  replace z12 := cell_later hb4 z12
  have hB4 := Below.on hw hb4
  clear HFo hW hb4 hw HTb
  generalize w.heap.size + 1 = q at *
  go_wp2_with fail
  refine Calls.mono HT4.out ?_
  rintro e U2 ⟨us,ua,un,uc,va,vn,vc,is,rfl,his,hso,hb2⟩
  have hB2 := Below.on hB4 hb2
  clear HT4
  cases lk with
  | none =>
   have HT : Hid (R = 9) := hid (HN.out rfl)
   obtain rfl : is = false := his
   clear HN HM hso hb2 z0 z1 z2 z3 z4 z5 z6 z7 z8 z9 z10 z11 z12 y0 y1
   go_wp2
   go_ret
   exact ⟨ret_int HT.out.symm,by first | exact bal hB2 _ | exact hB2⟩
  | some t =>
   obtain rfl : is = true := his
   obtain ⟨rfl,hcu⟩ := hso t rfl
   have HM2 : Hid _ := hid (HM.out t rfl)
   clear HN HM hso
   go_upto_region 17 with fail
   have bx := Bk.new U2 (.cells #[.string t.name,.slice ua un uc,.slice va vn vc] 58)
   have hb3 := bal (Below.refl U2.heap.size U2) (.cells #[.string t.name,.slice ua un uc,.slice va vn vc] 58)
   generalize U2.alloc (.cells #[.string t.name,.slice ua un uc,.slice va vn vc] 58) = U3 at bx hb3 ⊢
   have hB3 := Below.on hB2 hb3
   have hb43 := Below.on hb2 hb3
   have d0 := bx.cell 0
   have d1 := bx.cell 1
   have d2 := bx.cell 2
   simp only [List.getElem?_toArray,List.getElem?_cons_zero,List.getElem?_cons_succ] at d0 d1 d2
   have HX : Hid _ := hid (HM2.out U3 ua un uc va vn vc hb43 (hcu.keep (by decide) fun b _ hl => hb3.block b hl))
   replace y0 := cell_later hb43 y0
   replace y1 := cell_later hb43 y1
   replace z0 := cell_later hb43 z0
   replace z1 := cell_later hb43 z1
   replace z2 := cell_later hb43 z2
   replace z3 := cell_later hb43 z3
   replace z4 := cell_later hb43 z4
   replace z5 := cell_later hb43 z5
   replace z6 := cell_later hb43 z6
   replace z7 := cell_later hb43 z7
   replace z8 := cell_later hb43 z8
   replace z9 := cell_later hb43 z9
   replace z10 := cell_later hb43 z10
   replace z11 := cell_later hb43 z11
   replace z12 := cell_later hb43 z12
   generalize U2.heap.size = p at d0 d1 d2 ⊢
   clear bx hb3 hcu hb2 hb43 hB2 hB4 HM2
   go_wp2_with fail
   refine Calls.mono HX.out ?_
   rintro e w5 ⟨rfl,hb5⟩
   clear HX y0 y1 z0 z1 z2 z3 z4 z5 z6 z7 z8 z9 z10 z11 z12 d0 d1 d2
   go_wp2
   go_ret
   exact ⟨rfl,Below.on hB3 hb5⟩
set_option maxRecDepth 100000 in
set_option maxHeartbeats 4000000 in
theorem rcheck_8 {T : List Tbl} {m : Sq} (hB : SqB m) {w : World} {ta : Option Addr} {tn tc : Nat} {vb : Option Addr} {vm vd : Nat} (hT : IsT w T ta tn tc) {s : Sv} (hm : IsQ w m s) (hk : m.kind = 8) (hT5 : T.length ≤ 500) (hT50 : ∀ t ∈ T,t.cols.length ≤ 50) :
  Calls Tryz.prog 16 #[.agg #[.slice ta tn tc,.slice vb vm vd],stV s] w fun en w' => en = .returned (.int .i64 (if formP m s.inn.2.1 then delP T m else 1)) ∧ Below w.heap.size w w' := by
 have hw := bal (bal (Below.refl w.heap.size w) (.cells #[.slice ta tn tc,.slice vb vm vd] 38)) (svO s)
 have bs := (Bk.new w (.cells #[.slice ta tn tc,.slice vb vm vd] 38)).later (bal (Below.refl _ _) (svO s))
 have bq := Bk.new (w.alloc (.cells #[.slice ta tn tc,.slice vb vm vd] 38)) (svO s)
 rw [World.size_alloc] at bq
 generalize hW : (w.alloc (.cells #[.slice ta tn tc,.slice vb vm vd] 38)).alloc (svO s) = W at hw bs bq
 replace hT := hT.later hw
 replace hm := hm.later hw
 have y0 := bs.cell 0
 have y1 := bs.cell 1
 have z0 := bq.cell 0
 have z1 := bq.cell 1
 have z2 := bq.cell 2
 have z3 := bq.cell 3
 have z4 := bq.cell 4
 have z5 := bq.cell 5
 have z6 := bq.cell 6
 have z7 := bq.cell 7
 have z8 := bq.cell 8
 have z9 := bq.cell 9
 have z10 := bq.cell 10
 have z11 := bq.cell 11
 have z12 := bq.cell 12
 simp only [List.getElem?_toArray,List.getElem?_cons_zero,List.getElem?_cons_succ] at y0 y1 z0 z1 z2 z3 z4 z5 z6 z7 z8 z9 z10 z11 z12
 have HFo : Hid _ := hid (lists_8 hB hm hk)
 have HTb : Hid (∀ w',Below W.heap.size W w' → _) := hid fun w' hb => rtable_any hT5 m.table (hT.row.keep (by decide) fun b _ hl => hb.block b hl) vb vm vd
 have HN : Hid (lookT T m.table = none → delP T m = 9) := hid fun hl => by exact delP_none hl
 have HM : Hid (formP m s.inn.2.1 = true → ∀ t,lookT T m.table = some t → ∀ (w' : World) (ca : Option Addr) (cn cc : Nat) (xa : Option Addr) (xn xc : Nat),Below W.heap.size W w' → RowIs eCol (fun _ => True) w' (.slice ca cn cc) t.cols → Calls Tryz.prog 38 #[stV s,.agg #[.string t.name,.slice ca cn cc,.slice xa xn xc]] w' fun en w'' => en = .returned (.int .i64 (delP T m)) ∧ Below w'.heap.size w' w'') := hid fun hf t hl w' ca cn cc xa xn xc hb hc => by
  have := writes_8 (hT50 t (lookT_mem hl)) hB (hm.later hb) hc xa xn xc hk; rwa [← delP_some hl] at this
 obtain ⟨R,hR⟩ : ∃ R,delP T m = R := ⟨_,rfl⟩
 rw [hR]
 rw [hR] at HN HM
 have k0 : s.k = 8 := by rw [hm.k,hk]
 rw [k0] at z0
 have k1 : s.tb = m.table := hm.tb
 rw [k1] at z1
 generalize formP m s.inn.2.1 = B at *
 generalize lookT T m.table = lk at *
 clear hT bs bq hB hk hR hT50
 obtain ⟨sk,stb,snm,⟨co0,co1,co2⟩,⟨ta0,ta1,ta2⟩,⟨va0,va1,va2⟩,⟨it0,it1,it2⟩,sjn,⟨on0,on1,on2⟩,⟨wh0,wh1,wh2⟩,⟨od0,od1,od2⟩,sds,⟨in0,in1,in2⟩⟩ := s
 dsimp only [stV,svO] at *
 subst k0
 subst k1
 clear hm
 cases B with
 | false =>
  clear HM HN HTb
  go_enter Tryz.func16,Tryz.ntmps16
  go_upto_region 1 with fail
  go_wp2_with fail
  refine Calls.mono HFo.out ?_
  rintro e w4 ⟨rfl,hb4⟩
  clear HFo
  go_wp2
  go_ret
  exact ⟨rfl,Below.on hw hb4⟩
 | true =>
  replace HM : Hid _ := hid (HM.out rfl)
  go_enter Tryz.func16,Tryz.ntmps16
  go_upto_region 1 with fail
  go_wp2_with fail
  refine Calls.mono HFo.out ?_
  rintro e w4 ⟨rfl,hb4⟩
  have HT4 : Hid _ := hid (HTb.out w4 hb4)
  replace HM : Hid (∀ t,lk = some t → ∀ (w' : World) (ca : Option Addr) (cn cc : Nat) (xa : Option Addr) (xn xc : Nat),Below w4.heap.size w4 w' → RowIs eCol (fun _ => True) w' (.slice ca cn cc) t.cols → _) := hid fun t hl w' ca cn cc xa xn xc hb hc => HM.out t hl w' ca cn cc xa xn xc (Below.on hb4 hb) hc
  replace y0 := cell_later hb4 y0
  replace y1 := cell_later hb4 y1
  replace z0 := cell_later hb4 z0
  replace z1 := cell_later hb4 z1
  replace z2 := cell_later hb4 z2
  replace z3 := cell_later hb4 z3
  replace z4 := cell_later hb4 z4
  replace z5 := cell_later hb4 z5
  replace z6 := cell_later hb4 z6
  replace z7 := cell_later hb4 z7
  replace z8 := cell_later hb4 z8
  replace z9 := cell_later hb4 z9
  replace z10 := cell_later hb4 z10
  replace z11 := cell_later hb4 z11
  replace z12 := cell_later hb4 z12
  have hB4 := Below.on hw hb4
  clear HFo hW hb4 hw HTb
  generalize w.heap.size + 1 = q at *
  go_wp2_with fail
  refine Calls.mono HT4.out ?_
  rintro e U2 ⟨us,ua,un,uc,va,vn,vc,is,rfl,his,hso,hb2⟩
  have hB2 := Below.on hB4 hb2
  clear HT4
  cases lk with
  | none =>
   have HT : Hid (R = 9) := hid (HN.out rfl)
   obtain rfl : is = false := his
   clear HN HM hso hb2 z0 z1 z2 z3 z4 z5 z6 z7 z8 z9 z10 z11 z12 y0 y1
   go_wp2
   go_ret
   exact ⟨ret_int HT.out.symm,by first | exact bal hB2 _ | exact hB2⟩
  | some t =>
   obtain rfl : is = true := his
   obtain ⟨rfl,hcu⟩ := hso t rfl
   have HM2 : Hid _ := hid (HM.out t rfl)
   clear HN HM hso
   go_upto_region 17 with fail
   have bx := Bk.new U2 (.cells #[.string t.name,.slice ua un uc,.slice va vn vc] 58)
   have hb3 := bal (Below.refl U2.heap.size U2) (.cells #[.string t.name,.slice ua un uc,.slice va vn vc] 58)
   generalize U2.alloc (.cells #[.string t.name,.slice ua un uc,.slice va vn vc] 58) = U3 at bx hb3 ⊢
   have hB3 := Below.on hB2 hb3
   have hb43 := Below.on hb2 hb3
   have d0 := bx.cell 0
   have d1 := bx.cell 1
   have d2 := bx.cell 2
   simp only [List.getElem?_toArray,List.getElem?_cons_zero,List.getElem?_cons_succ] at d0 d1 d2
   have HX : Hid _ := hid (HM2.out U3 ua un uc va vn vc hb43 (hcu.keep (by decide) fun b _ hl => hb3.block b hl))
   replace y0 := cell_later hb43 y0
   replace y1 := cell_later hb43 y1
   replace z0 := cell_later hb43 z0
   replace z1 := cell_later hb43 z1
   replace z2 := cell_later hb43 z2
   replace z3 := cell_later hb43 z3
   replace z4 := cell_later hb43 z4
   replace z5 := cell_later hb43 z5
   replace z6 := cell_later hb43 z6
   replace z7 := cell_later hb43 z7
   replace z8 := cell_later hb43 z8
   replace z9 := cell_later hb43 z9
   replace z10 := cell_later hb43 z10
   replace z11 := cell_later hb43 z11
   replace z12 := cell_later hb43 z12
   generalize U2.heap.size = p at d0 d1 d2 ⊢
   clear bx hb3 hcu hb2 hb43 hB2 hB4 HM2
   go_wp2_with fail
   refine Calls.mono HX.out ?_
   rintro e w5 ⟨rfl,hb5⟩
   clear HX y0 y1 z0 z1 z2 z3 z4 z5 z6 z7 z8 z9 z10 z11 z12 d0 d1 d2
   go_wp2
   go_ret
   exact ⟨rfl,Below.on hB3 hb5⟩
set_option maxRecDepth 100000 in
set_option maxHeartbeats 4000000 in
theorem rcheck_7 {T : List Tbl} {m : Sq} (hB : SqB m) {w : World} {ta : Option Addr} {tn tc : Nat} {vb : Option Addr} {vm vd : Nat} (hT : IsT w T ta tn tc) {s : Sv} (hm : IsQ w m s) (hk : m.kind = 7) (hT5 : T.length ≤ 500) (hT50 : ∀ t ∈ T,t.cols.length ≤ 50) :
  Calls Tryz.prog 16 #[.agg #[.slice ta tn tc,.slice vb vm vd],stV s] w fun en w' => en = .returned (.int .i64 (if formP m s.inn.2.1 then updDP T m else 1)) ∧ Below w.heap.size w w' := by
 have hw := bal (bal (Below.refl w.heap.size w) (.cells #[.slice ta tn tc,.slice vb vm vd] 38)) (svO s)
 have bs := (Bk.new w (.cells #[.slice ta tn tc,.slice vb vm vd] 38)).later (bal (Below.refl _ _) (svO s))
 have bq := Bk.new (w.alloc (.cells #[.slice ta tn tc,.slice vb vm vd] 38)) (svO s)
 rw [World.size_alloc] at bq
 generalize hW : (w.alloc (.cells #[.slice ta tn tc,.slice vb vm vd] 38)).alloc (svO s) = W at hw bs bq
 replace hT := hT.later hw
 replace hm := hm.later hw
 have y0 := bs.cell 0
 have y1 := bs.cell 1
 have z0 := bq.cell 0
 have z1 := bq.cell 1
 have z2 := bq.cell 2
 have z3 := bq.cell 3
 have z4 := bq.cell 4
 have z5 := bq.cell 5
 have z6 := bq.cell 6
 have z7 := bq.cell 7
 have z8 := bq.cell 8
 have z9 := bq.cell 9
 have z10 := bq.cell 10
 have z11 := bq.cell 11
 have z12 := bq.cell 12
 simp only [List.getElem?_toArray,List.getElem?_cons_zero,List.getElem?_cons_succ] at y0 y1 z0 z1 z2 z3 z4 z5 z6 z7 z8 z9 z10 z11 z12
 have HFo : Hid _ := hid (lists_7 hB hm hk)
 have HTb : Hid (∀ w',Below W.heap.size W w' → _) := hid fun w' hb => rtable_any hT5 m.table (hT.row.keep (by decide) fun b _ hl => hb.block b hl) vb vm vd
 have HN : Hid (lookT T m.table = none → updDP T m = 9) := hid fun hl => by unfold updDP; rw [hl]
 have HM : Hid (formP m s.inn.2.1 = true → ∀ t,lookT T m.table = some t → ∀ (w' : World) (ca : Option Addr) (cn cc : Nat) (xa : Option Addr) (xn xc : Nat),Below W.heap.size W w' → RowIs eCol (fun _ => True) w' (.slice ca cn cc) t.cols → Calls Tryz.prog 38 #[stV s,.agg #[.string t.name,.slice ca cn cc,.slice xa xn xc]] w' fun en w'' => en = .returned (.int .i64 (updDP T m)) ∧ Below w'.heap.size w' w'') := hid fun hf t hl w' ca cn cc xa xn xc hb hc => by
  have := writes_7 (hT50 t (lookT_mem hl)) hB (hm.later hb) hc xa xn xc hk (by rw [formP_upd hk] at hf; simp only [Bool.and_eq_true,decide_eq_true_eq] at hf; exact hf.1); rwa [show updD t m = updDP T m from by unfold updDP; rw [hl]] at this
 obtain ⟨R,hR⟩ : ∃ R,updDP T m = R := ⟨_,rfl⟩
 rw [hR]
 rw [hR] at HN HM
 have k0 : s.k = 7 := by rw [hm.k,hk]
 rw [k0] at z0
 have k1 : s.tb = m.table := hm.tb
 rw [k1] at z1
 generalize formP m s.inn.2.1 = B at *
 generalize lookT T m.table = lk at *
 clear hT bs bq hB hk hR hT50
 obtain ⟨sk,stb,snm,⟨co0,co1,co2⟩,⟨ta0,ta1,ta2⟩,⟨va0,va1,va2⟩,⟨it0,it1,it2⟩,sjn,⟨on0,on1,on2⟩,⟨wh0,wh1,wh2⟩,⟨od0,od1,od2⟩,sds,⟨in0,in1,in2⟩⟩ := s
 dsimp only [stV,svO] at *
 subst k0
 subst k1
 clear hm
 cases B with
 | false =>
  clear HM HN HTb
  go_enter Tryz.func16,Tryz.ntmps16
  go_upto_region 1 with fail
  go_wp2_with fail
  refine Calls.mono HFo.out ?_
  rintro e w4 ⟨rfl,hb4⟩
  clear HFo
  go_wp2
  go_ret
  exact ⟨rfl,Below.on hw hb4⟩
 | true =>
  replace HM : Hid _ := hid (HM.out rfl)
  go_enter Tryz.func16,Tryz.ntmps16
  go_upto_region 1 with fail
  go_wp2_with fail
  refine Calls.mono HFo.out ?_
  rintro e w4 ⟨rfl,hb4⟩
  have HT4 : Hid _ := hid (HTb.out w4 hb4)
  replace HM : Hid (∀ t,lk = some t → ∀ (w' : World) (ca : Option Addr) (cn cc : Nat) (xa : Option Addr) (xn xc : Nat),Below w4.heap.size w4 w' → RowIs eCol (fun _ => True) w' (.slice ca cn cc) t.cols → _) := hid fun t hl w' ca cn cc xa xn xc hb hc => HM.out t hl w' ca cn cc xa xn xc (Below.on hb4 hb) hc
  replace y0 := cell_later hb4 y0
  replace y1 := cell_later hb4 y1
  replace z0 := cell_later hb4 z0
  replace z1 := cell_later hb4 z1
  replace z2 := cell_later hb4 z2
  replace z3 := cell_later hb4 z3
  replace z4 := cell_later hb4 z4
  replace z5 := cell_later hb4 z5
  replace z6 := cell_later hb4 z6
  replace z7 := cell_later hb4 z7
  replace z8 := cell_later hb4 z8
  replace z9 := cell_later hb4 z9
  replace z10 := cell_later hb4 z10
  replace z11 := cell_later hb4 z11
  replace z12 := cell_later hb4 z12
  have hB4 := Below.on hw hb4
  clear HFo hW hb4 hw HTb
  generalize w.heap.size + 1 = q at *
  go_wp2_with fail
  refine Calls.mono HT4.out ?_
  rintro e U2 ⟨us,ua,un,uc,va,vn,vc,is,rfl,his,hso,hb2⟩
  have hB2 := Below.on hB4 hb2
  clear HT4
  cases lk with
  | none =>
   have HT : Hid (R = 9) := hid (HN.out rfl)
   obtain rfl : is = false := his
   clear HN HM hso hb2 z0 z1 z2 z3 z4 z5 z6 z7 z8 z9 z10 z11 z12 y0 y1
   go_wp2
   go_ret
   exact ⟨ret_int HT.out.symm,by first | exact bal hB2 _ | exact hB2⟩
  | some t =>
   obtain rfl : is = true := his
   obtain ⟨rfl,hcu⟩ := hso t rfl
   have HM2 : Hid _ := hid (HM.out t rfl)
   clear HN HM hso
   go_upto_region 17 with fail
   have bx := Bk.new U2 (.cells #[.string t.name,.slice ua un uc,.slice va vn vc] 58)
   have hb3 := bal (Below.refl U2.heap.size U2) (.cells #[.string t.name,.slice ua un uc,.slice va vn vc] 58)
   generalize U2.alloc (.cells #[.string t.name,.slice ua un uc,.slice va vn vc] 58) = U3 at bx hb3 ⊢
   have hB3 := Below.on hB2 hb3
   have hb43 := Below.on hb2 hb3
   have d0 := bx.cell 0
   have d1 := bx.cell 1
   have d2 := bx.cell 2
   simp only [List.getElem?_toArray,List.getElem?_cons_zero,List.getElem?_cons_succ] at d0 d1 d2
   have HX : Hid _ := hid (HM2.out U3 ua un uc va vn vc hb43 (hcu.keep (by decide) fun b _ hl => hb3.block b hl))
   replace y0 := cell_later hb43 y0
   replace y1 := cell_later hb43 y1
   replace z0 := cell_later hb43 z0
   replace z1 := cell_later hb43 z1
   replace z2 := cell_later hb43 z2
   replace z3 := cell_later hb43 z3
   replace z4 := cell_later hb43 z4
   replace z5 := cell_later hb43 z5
   replace z6 := cell_later hb43 z6
   replace z7 := cell_later hb43 z7
   replace z8 := cell_later hb43 z8
   replace z9 := cell_later hb43 z9
   replace z10 := cell_later hb43 z10
   replace z11 := cell_later hb43 z11
   replace z12 := cell_later hb43 z12
   generalize U2.heap.size = p at d0 d1 d2 ⊢
   clear bx hb3 hcu hb2 hb43 hB2 hB4 HM2
   go_wp2_with fail
   refine Calls.mono HX.out ?_
   rintro e w5 ⟨rfl,hb5⟩
   clear HX y0 y1 z0 z1 z2 z3 z4 z5 z6 z7 z8 z9 z10 z11 z12 d0 d1 d2
   go_wp2
   go_ret
   exact ⟨rfl,Below.on hB3 hb5⟩

end Go.Proofs.YtljmlacnfnmjbaaGreat
namespace Go.Proofs.YtljmlacnfnmjbaaGreat
open Go.RowKit
set_option linter.unusedVariables false
set_option linter.unusedSimpArgs false

theorem selP_no {T : List Tbl} {m : Sq} (h : lookT T m.table = none) : selP T m = 9 := by
 have hE : overE T (namesP m) = 9 := by unfold overE namesP; split <;> simp [lookE,h,erL]
 have hF : fromE T m = 9 := by unfold fromE; rw [hE,if_neg (fun hh => absurd hh.1 (by decide))]
 unfold selP
 rw [hF]; rfl
set_option maxRecDepth 100000 in
set_option maxHeartbeats 4000000 in
theorem rcheck_6 {T : List Tbl} {m : Sq} (hB : SqB m) {w : World} {ta : Option Addr} {tn tc : Nat} {vb : Option Addr} {vm vd : Nat} (hT : IsT w T ta tn tc) {s : Sv} (hm : IsQ w m s) (hk : m.kind = 6) (hT5 : T.length ≤ 500) (hT50 : ∀ t ∈ T,t.cols.length ≤ 50) :
  Calls Tryz.prog 16 #[.agg #[.slice ta tn tc,.slice vb vm vd],stV s] w fun en w' => en = .returned (.int .i64 (if formP m s.inn.2.1 then selP T m else 1)) ∧ Below w.heap.size w w' := by
 have hw := bal (bal (Below.refl w.heap.size w) (.cells #[.slice ta tn tc,.slice vb vm vd] 38)) (svO s)
 have bs := (Bk.new w (.cells #[.slice ta tn tc,.slice vb vm vd] 38)).later (bal (Below.refl _ _) (svO s))
 have bq := Bk.new (w.alloc (.cells #[.slice ta tn tc,.slice vb vm vd] 38)) (svO s)
 rw [World.size_alloc] at bq
 generalize hW : (w.alloc (.cells #[.slice ta tn tc,.slice vb vm vd] 38)).alloc (svO s) = W at hw bs bq
 replace hT := hT.later hw
 replace hm := hm.later hw
 have y0 := bs.cell 0
 have y1 := bs.cell 1
 have z0 := bq.cell 0
 have z1 := bq.cell 1
 have z2 := bq.cell 2
 have z3 := bq.cell 3
 have z4 := bq.cell 4
 have z5 := bq.cell 5
 have z6 := bq.cell 6
 have z7 := bq.cell 7
 have z8 := bq.cell 8
 have z9 := bq.cell 9
 have z10 := bq.cell 10
 have z11 := bq.cell 11
 have z12 := bq.cell 12
 simp only [List.getElem?_toArray,List.getElem?_cons_zero,List.getElem?_cons_succ] at y0 y1 z0 z1 z2 z3 z4 z5 z6 z7 z8 z9 z10 z11 z12
 have HFo : Hid _ := hid (lists_6 hB hm hk)
 have HTb : Hid (∀ w',Below W.heap.size W w' → _) := hid fun w' hb => rtable_any hT5 m.table (hT.row.keep (by decide) fun b _ hl => hb.block b hl) vb vm vd
 have HN : Hid (lookT T m.table = none → selP T m = 9) := hid fun hl => by exact selP_no hl
 have HM : Hid (formP m s.inn.2.1 = true → ∀ t,lookT T m.table = some t → ∀ (w' : World) (ca : Option Addr) (cn cc : Nat) (xa : Option Addr) (xn xc : Nat),Below W.heap.size W w' → RowIs eCol (fun _ => True) w' (.slice ca cn cc) t.cols → Calls Tryz.prog 37 #[.agg #[.slice ta tn tc,.slice vb vm vd],stV s,.agg #[.string t.name,.slice ca cn cc,.slice xa xn xc]] w' fun en w'' => en = .returned (.int .i64 (selP T m)) ∧ Below w'.heap.size w' w'') := hid fun hf t hl w' ca cn cc xa xn xc hb hc => by
  rw [formP_sel hk] at hf
  simp only [Bool.and_eq_true,decide_eq_true_eq] at hf
  obtain ⟨⟨⟨hf1,hf2⟩,hf3⟩,hf4⟩ := hf
  by_cases hj : m.join = ⟨#[]⟩
  ·have ho : m.on.length = 0 := by unfold formOnP at hf1; rw [if_pos hj] at hf1; simpa using hf1
   exact selected_one hT5 hT50 hB (hT.row.keep (by decide) fun b _ hl => hb.block b hl) (hm.later hb) hl hc xa xn xc hf3 hf4 hj ho
  ·have ho : m.on.length = 2 := by unfold formOnP at hf1; rw [if_neg hj] at hf1; simp only [Bool.and_eq_true,decide_eq_true_eq] at hf1; exact hf1.1
   exact selected_two hT5 hT50 hB (hT.row.keep (by decide) fun b _ hl => hb.block b hl) (hm.later hb) hl hc xa xn xc hf3 hf4 hT.ne hj ho
 obtain ⟨R,hR⟩ : ∃ R,selP T m = R := ⟨_,rfl⟩
 rw [hR]
 rw [hR] at HN HM
 have k0 : s.k = 6 := by rw [hm.k,hk]
 rw [k0] at z0
 have k1 : s.tb = m.table := hm.tb
 rw [k1] at z1
 generalize formP m s.inn.2.1 = B at *
 generalize lookT T m.table = lk at *
 clear hT bs bq hB hk hR hT50
 obtain ⟨sk,stb,snm,⟨co0,co1,co2⟩,⟨ta0,ta1,ta2⟩,⟨va0,va1,va2⟩,⟨it0,it1,it2⟩,sjn,⟨on0,on1,on2⟩,⟨wh0,wh1,wh2⟩,⟨od0,od1,od2⟩,sds,⟨in0,in1,in2⟩⟩ := s
 dsimp only [stV,svO] at *
 subst k0
 subst k1
 clear hm
 cases B with
 | false =>
  clear HM HN HTb
  go_enter Tryz.func16,Tryz.ntmps16
  go_upto_region 1 with fail
  go_wp2_with fail
  refine Calls.mono HFo.out ?_
  rintro e w4 ⟨rfl,hb4⟩
  clear HFo
  go_wp2
  go_ret
  exact ⟨rfl,Below.on hw hb4⟩
 | true =>
  replace HM : Hid _ := hid (HM.out rfl)
  go_enter Tryz.func16,Tryz.ntmps16
  go_upto_region 1 with fail
  go_wp2_with fail
  refine Calls.mono HFo.out ?_
  rintro e w4 ⟨rfl,hb4⟩
  have HT4 : Hid _ := hid (HTb.out w4 hb4)
  replace HM : Hid (∀ t,lk = some t → ∀ (w' : World) (ca : Option Addr) (cn cc : Nat) (xa : Option Addr) (xn xc : Nat),Below w4.heap.size w4 w' → RowIs eCol (fun _ => True) w' (.slice ca cn cc) t.cols → _) := hid fun t hl w' ca cn cc xa xn xc hb hc => HM.out t hl w' ca cn cc xa xn xc (Below.on hb4 hb) hc
  replace y0 := cell_later hb4 y0
  replace y1 := cell_later hb4 y1
  replace z0 := cell_later hb4 z0
  replace z1 := cell_later hb4 z1
  replace z2 := cell_later hb4 z2
  replace z3 := cell_later hb4 z3
  replace z4 := cell_later hb4 z4
  replace z5 := cell_later hb4 z5
  replace z6 := cell_later hb4 z6
  replace z7 := cell_later hb4 z7
  replace z8 := cell_later hb4 z8
  replace z9 := cell_later hb4 z9
  replace z10 := cell_later hb4 z10
  replace z11 := cell_later hb4 z11
  replace z12 := cell_later hb4 z12
  have hB4 := Below.on hw hb4
  clear HFo hW hb4 hw HTb
  generalize w.heap.size + 1 = q at *
  go_wp2_with fail
  refine Calls.mono HT4.out ?_
  rintro e U2 ⟨us,ua,un,uc,va,vn,vc,is,rfl,his,hso,hb2⟩
  have hB2 := Below.on hB4 hb2
  clear HT4
  cases lk with
  | none =>
   have HT : Hid (R = 9) := hid (HN.out rfl)
   obtain rfl : is = false := his
   clear HN HM hso hb2 z0 z1 z2 z3 z4 z5 z6 z7 z8 z9 z10 z11 z12 y0 y1
   go_wp2
   go_ret
   exact ⟨ret_int HT.out.symm,by first | exact bal hB2 _ | exact hB2⟩
  | some t =>
   obtain rfl : is = true := his
   obtain ⟨rfl,hcu⟩ := hso t rfl
   have HM2 : Hid _ := hid (HM.out t rfl)
   clear HN HM hso
   go_upto_region 17 with fail
   have bx := Bk.new U2 (.cells #[.string t.name,.slice ua un uc,.slice va vn vc] 58)
   have hb3 := bal (Below.refl U2.heap.size U2) (.cells #[.string t.name,.slice ua un uc,.slice va vn vc] 58)
   generalize U2.alloc (.cells #[.string t.name,.slice ua un uc,.slice va vn vc] 58) = U3 at bx hb3 ⊢
   have hB3 := Below.on hB2 hb3
   have hb43 := Below.on hb2 hb3
   have d0 := bx.cell 0
   have d1 := bx.cell 1
   have d2 := bx.cell 2
   simp only [List.getElem?_toArray,List.getElem?_cons_zero,List.getElem?_cons_succ] at d0 d1 d2
   have HX : Hid _ := hid (HM2.out U3 ua un uc va vn vc hb43 (hcu.keep (by decide) fun b _ hl => hb3.block b hl))
   replace y0 := cell_later hb43 y0
   replace y1 := cell_later hb43 y1
   replace z0 := cell_later hb43 z0
   replace z1 := cell_later hb43 z1
   replace z2 := cell_later hb43 z2
   replace z3 := cell_later hb43 z3
   replace z4 := cell_later hb43 z4
   replace z5 := cell_later hb43 z5
   replace z6 := cell_later hb43 z6
   replace z7 := cell_later hb43 z7
   replace z8 := cell_later hb43 z8
   replace z9 := cell_later hb43 z9
   replace z10 := cell_later hb43 z10
   replace z11 := cell_later hb43 z11
   replace z12 := cell_later hb43 z12
   generalize U2.heap.size = p at d0 d1 d2 ⊢
   clear bx hb3 hcu hb2 hb43 hB2 hB4 HM2
   go_wp2_with fail
   refine Calls.mono HX.out ?_
   rintro e w5 ⟨rfl,hb5⟩
   clear HX y0 y1 z0 z1 z2 z3 z4 z5 z6 z7 z8 z9 z10 z11 z12 d0 d1 d2
   go_wp2
   go_ret
   exact ⟨rfl,Below.on hB3 hb5⟩

end Go.Proofs.YtljmlacnfnmjbaaGreat
