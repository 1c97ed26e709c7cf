import Derived.Test.YtljmlacnfnmjbaaGreatTmax
namespace Go.Proofs.YtljmlacnfnmjbaaGreat
open Go.RowKit
set_option linter.unusedVariables false
set_option linter.unusedSimpArgs false

set_option maxRecDepth 100000 in
set_option maxHeartbeats 4000000 in
theorem maySelect_any {T : List Tbl} {m : Sq} (hB : SqB m) {w : World} {ta : Option Addr} {tn tc : Nat} {vb : Option Addr} {vm vd : Nat} (hT : IsT w T ta tn tc) {s : Sv} (hm : IsQ w m s) (hC5 : (fromC T m).length ≤ 500) :
  Calls Tryz.prog 30 #[.agg #[.slice ta tn tc,.slice vb vm vd],stV s] w fun en w' => en = .returned (.int .i64 (selP T m)) ∧ Below w.heap.size w w' := by
 have hw := bal (bal (Below.refl w.heap.size w) (.cells #[.slice ta tn tc,.slice vb vm vd] 38)) (svO s)
 have bs := (Bk.new w (.cells #[.slice ta tn tc,.slice vb vm vd] 38)).later (bal (Below.refl _ _) (svO s))
 have bq := Bk.new (w.alloc (.cells #[.slice ta tn tc,.slice vb vm vd] 38)) (svO s)
 rw [World.size_alloc] at bq
 generalize hW : (w.alloc (.cells #[.slice ta tn tc,.slice vb vm vd] 38)).alloc (svO s) = W at hw bs bq
 replace hT := hT.later hw
 replace hm := hm.later hw
 have y0 := bs.cell 0
 have y1 := bs.cell 1
 have z0 := bq.cell 0
 have z1 := bq.cell 1
 have z2 := bq.cell 2
 have z3 := bq.cell 3
 have z4 := bq.cell 4
 have z5 := bq.cell 5
 have z6 := bq.cell 6
 have z7 := bq.cell 7
 have z8 := bq.cell 8
 have z9 := bq.cell 9
 have z10 := bq.cell 10
 have z11 := bq.cell 11
 have z12 := bq.cell 12
 simp only [List.getElem?_toArray,List.getElem?_cons_zero,List.getElem?_cons_succ] at y0 y1 z0 z1 z2 z3 z4 z5 z6 z7 z8 z9 z10 z11 z12
 have HFr := from_any hB hT hm (vb := vb) (vm := vm) (vd := vd)
 have HQ : Hid (∀ w',Below W.heap.size W w' → IsQ w' m s) := hid fun w' hb => hm.later hb
 have HF : Hid (selP T m = if fromE T m ≠ 0 then fromE T m else erL [onCP (fromC T m) m.on,itmsP (fromC T m) m.items m.order.length,whP (fromC T m) m.wh,orderKP (fromC T m) m.order]) := hid rfl
 obtain ⟨r1,r2,r3⟩ := hm.od.lens
 obtain ⟨l6a,l6b,l6c⟩ := hm.it.lens
 have l8 := hm.on.lens
 have l9 := hm.wh.lens
 rw [r1] at HF
 generalize selP T m = R at *
 generalize fromE T m = E at *
 generalize fromC T m = C at *
 clear hT bs bq
 have H1 : Hid (∀ (a : Option Addr) (n c : Nat) w',Below W.heap.size W w' → RowIs eClm (fun _ => True) w' (.slice a n c) C → _) := hid fun a n c w' hb hr => onK_any hC5 hB.on hr (hm.later hb).on
 have H2 : Hid (∀ (a : Option Addr) (n c : Nat) w',Below W.heap.size W w' → RowIs eClm (fun _ => True) w' (.slice a n c) C → _) := hid fun a n c w' hb hr => items_any hC5 hB.it hr (hm.later hb).it s.od.1 s.od.2.1 s.od.2.2 r2 r3
 have H3 : Hid (∀ (a : Option Addr) (n c : Nat) w',Below W.heap.size W w' → RowIs eClm (fun _ => True) w' (.slice a n c) C → _) := hid fun a n c w' hb hr => where_any hC5 hB.wh hr (hm.later hb).wh
 have H4 : Hid (∀ (a : Option Addr) (n c : Nat) w',Below W.heap.size W w' → RowIs eClm (fun _ => True) w' (.slice a n c) C → _) := hid fun a n c w' hb hr => order_any hC5 hB.od hr (hm.later hb).od
 replace HFr : Hid _ := hid HFr
 clear hm r1
 obtain ⟨sk,stb,snm,sco,sta,sva,⟨it0,it1,it2⟩,sjn,⟨on0,on1,on2⟩,⟨wh0,wh1,wh2⟩,⟨od0,od1,od2⟩,sds,sinn⟩ := s
 dsimp only [stV,svO] at *
 generalize onCP C m.on = e1 at *
 generalize itmsP C m.items od1 = e2 at *
 generalize whP C m.wh = e3 at *
 generalize orderKP C m.order = e4 at *
 clear HQ
 go_enter Tryz.func30,Tryz.ntmps30
 go_upto_region 1 with fail
 go_wp2_with fail
 refine Calls.mono HFr.out ?_
 rintro e w4 ⟨a4,n4,c4,rfl,hb4,hr4⟩
 have HR4 : Hid _ := hid hr4
 have v6 := cell_later hb4 z6
 have v8 := cell_later hb4 z8
 have v9 := cell_later hb4 z9
 have v10 := cell_later hb4 z10
 clear HFr hr4 z0 z1 z2 z3 z4 z5 z6 z7 z8 z9 z10 z11 z12 y0 y1
 by_cases he : E = 0
 ·subst he
  have hRe : erL [e1,e2,e3,e4] = R := by rw [HF.out,if_neg (by simp)]
  have hr := HR4.out (by first | rfl | trivial)
  have G1 : Hid (∀ w',Below w4.heap.size w4 w' → _) := hid fun w' hb => H1.out a4 n4 c4 w' (Below.on hb4 hb) (hr.keep (by decide) fun b _ hl => hb.block b hl)
  have G2 : Hid (∀ w',Below w4.heap.size w4 w' → _) := hid fun w' hb => H2.out a4 n4 c4 w' (Below.on hb4 hb) (hr.keep (by decide) fun b _ hl => hb.block b hl)
  have G3 : Hid (∀ w',Below w4.heap.size w4 w' → _) := hid fun w' hb => H3.out a4 n4 c4 w' (Below.on hb4 hb) (hr.keep (by decide) fun b _ hl => hb.block b hl)
  have G4 : Hid (∀ w',Below w4.heap.size w4 w' → _) := hid fun w' hb => H4.out a4 n4 c4 w' (Below.on hb4 hb) (hr.keep (by decide) fun b _ hl => hb.block b hl)
  have hB4 := Below.on hw hb4
  have HOr := fun (w' : World) => or_any (l := [e1,e2,e3,e4]) (by simp) (row4_int w'.heap.size (cell_new w' #[.int .i64 e1,.int .i64 e2,.int .i64 e3,.int .i64 e4] 31 (0,0) 0) (cell_new w' #[.int .i64 e1,.int .i64 e2,.int .i64 e3,.int .i64 e4] 31 (0,0) 1) (cell_new w' #[.int .i64 e1,.int .i64 e2,.int .i64 e3,.int .i64 e4] 31 (0,0) 2) (cell_new w' #[.int .i64 e1,.int .i64 e2,.int .i64 e3,.int .i64 e4] 31 (0,0) 3))
  simp only [hRe] at HOr
  replace HOr : Hid _ := hid HOr
  clear hRe
  have hC : Below w4.heap.size w4 w4.drew := (Below.refl _ w4).drew
  clear H1 H2 H3 H4 HF HR4 hr hb4 hw hW
  generalize w.heap.size + 1 = q at *
  go_upto_region 4 with fail
  go_region_held (fun w' => w'.cell? ⟨q,6,none⟩ = some (.slice it0 it1 it2) ∧ w'.cell? ⟨q,8,none⟩ = some (.slice on0 on1 on2) ∧ w'.cell? ⟨q,9,none⟩ = some (.slice wh0 wh1 wh2) ∧ w'.cell? ⟨q,10,none⟩ = some (.slice od0 od1 od2))
   (first | exact ⟨cell_later hC v6,cell_later hC v8,cell_later hC v9,cell_later hC v10⟩ | exact ⟨cell_later (bal hC _) v6,cell_later (bal hC _) v8,cell_later (bal hC _) v9,cell_later (bal hC _) v10⟩)
   (first
   | (go_at_call 64; with_reducible refine Calls.mono (G1.out _ hC) ?_; rintro e z1 ⟨rfl,hb1⟩; replace hC := Below.on hC hb1)
   | (go_at_call 65; with_reducible refine Calls.mono (G2.out _ hC) ?_; rintro e z1 ⟨rfl,hb1⟩; replace hC := Below.on hC hb1)
   | (go_at_call 66; with_reducible refine Calls.mono (G3.out _ hC) ?_; rintro e z1 ⟨rfl,hb1⟩; replace hC := Below.on hC hb1)
   | (go_at_call 67; with_reducible refine Calls.mono (G4.out _ hC) ?_; rintro e z1 ⟨rfl,hb1⟩; replace hC := Below.on hC hb1)
   | (go_at_call 63; with_reducible refine Calls.mono (HOr.out _) ?_; rintro e z1 ⟨rfl,hb1⟩; replace hC := Below.on (bal hC _) hb1))
  all_goals
   go_wp2
   go_ret
   exact ⟨rfl,Below.on hB4 hC⟩
 ·obtain rfl : R = E := by rw [HF.out,if_pos he]
  have ge : decide (R = 0) = false := by simpa using he
  have gn : (R != 0) = true := by simpa using he
  clear H1 H2 H3 H4 HF HR4
  go_wp2
  go_ret
  exact ⟨rfl,Below.on hw hb4⟩

end Go.Proofs.YtljmlacnfnmjbaaGreat
namespace Go.Proofs.YtljmlacnfnmjbaaGreat
open Go.RowKit
set_option linter.unusedVariables false
set_option linter.unusedSimpArgs false

def keptP (t : Tbl) (nm : ByteArray) : Bool := (fidx (fun c => eqS c.1 nm) t.cols == 0) || !decide (((t.cols[(fidx (fun c => eqS c.1 nm) t.cols).toNat]?).getD (⟨#[]⟩,0,⟨#[]⟩)).2.2 = ⟨#[]⟩)
def updT (t : Tbl) (m : Sq) : Int :=
 if (clmK (colsT t) ⟨#[]⟩ m.name).2 ≠ 0 then (clmK (colsT t) ⟨#[]⟩ m.name).2
 else if keptP t m.name then 24
 else erL [(m.values.map fun x => fitsP (colsT t) x (clmK (colsT t) ⟨#[]⟩ m.name).1).headD 0,whP (colsT t) m.wh]
def updP (T : List Tbl) (m : Sq) : Int :=
 match lookT T m.table with
 | none => 9
 | some t => updT t m
theorem clmK_place {t : Tbl} {nm : ByteArray} (h : (clmK (colsT t) ⟨#[]⟩ nm).2 = 0) : ∃ k : Nat,k < t.cols.length ∧ fidx (fun c => eqS c.1 nm) t.cols = k := by
 rcases clm_one (colsT t) ⟨#[]⟩ nm with ⟨_,c,hc,_⟩ | ⟨_,h2⟩
 ·have hmem : c ∈ (colsT t).filter (clmIs ⟨#[]⟩ nm) := by rw [hc]; simp
  rw [List.mem_filter] at hmem
  obtain ⟨h1,h3⟩ := hmem
  unfold colsT at h1
  obtain ⟨x,hx,rfl⟩ := List.mem_map.1 h1
  rcases fidx_vals (fun c : Co => eqS c.1 nm) t.cols with hn | ⟨k,hk,hl⟩
  ·exfalso
   have : decide (0 ≤ fidx (fun c : Co => eqS c.1 nm) t.cols) = true := by
    rw [fidx_any,List.any_eq_true]
    refine ⟨x,hx,?_⟩
    unfold clmIs at h3
    simp only [Bool.and_eq_true] at h3
    exact h3.1
   rw [hn] at this
   simp at this
  ·exact ⟨k,hl,hk⟩
 ·rw [h2] at h
  simp at h

set_option maxRecDepth 100000 in
set_option maxHeartbeats 4000000 in
theorem isKept_any (t : Tbl) (hl : t.cols.length ≤ 500) (nm : ByteArray) {k : Nat} (hk : k < t.cols.length) (hf : fidx (fun c => eqS c.1 nm) t.cols = k) {Q : Nat → Prop} {w : World} {a : Option Addr} {n c : Nat} (h : RowIs eCol Q w (.slice a n c) t.cols) (a2 : Option Addr) (n2 c2 : Nat) :
  Calls Tryz.prog 69 #[.agg #[.string t.name,.slice a n c,.slice a2 n2 c2],.string nm] w fun en w' => en = .returned (.bool (keptP t nm)) ∧ Below w.heap.size w w' := by
 have HT : keptP t nm = (((k : Int) == 0) || !decide ((t.cols[k]).2.2 = ⟨#[]⟩)) := by
  unfold keptP
  have e : (t.cols[k]?) = some t.cols[k] := List.getElem?_eq_getElem hk
  rw [hf]
  simp only [Int.toNat_natCast,e,Option.getD_some]
 have hw := bal (Below.refl w.heap.size w) (.cells #[.string t.name,.slice a n c,.slice a2 n2 c2] 58)
 have bx := Bk.new w (.cells #[.string t.name,.slice a n c,.slice a2 n2 c2] 58)
 generalize hW : w.alloc (.cells #[.string t.name,.slice a n c,.slice a2 n2 c2] 58) = W at hw bx
 have hr1 : RowIs eCol Q W (.slice a n c) t.cols := h.keep (by decide) fun b _ hl => hw.block b hl
 have HC := column_any hl t.name nm hr1 a2 n2 c2
 rw [hf] at HC
 have d0 := bx.cell 0
 have d1 := bx.cell 1
 have d2 := bx.cell 2
 simp only [List.getElem?_toArray,List.getElem?_cons_zero,List.getElem?_cons_succ] at d0 d1 d2
 obtain ⟨_,_,_,e',hn,hnc,hc,hx⟩ := hr1
 cases e'
 subst hn
 obtain ⟨b,o,rfl,-,hi⟩ := hx (by omega)
 obtain ⟨cs,hE,-,hcc⟩ := hi k hk
 have hE' : cs = [.string t.cols[k].1,.int .i64 t.cols[k].2.1,.string t.cols[k].2.2] := hE
 subst hE'
 have q2 : W.cell? ⟨b,o + k * 3 + 2,none⟩ = some (.string t.cols[k].2.2) := hcc 2 (show 2 < 3 by decide)
 generalize t.cols[k].2.2 = rf at *
 generalize keptP t nm = K at *
 replace HC : Hid _ := hid HC
 replace HT : Hid _ := hid HT
 have hkm : (k : Int) < (t.cols.length : Int) := by omega
 clear h hf hE hcc hi hx bx
 go_enter Tryz.func69,Tryz.ntmps69
 go_upto_region 1 with fail
 go_wp2_with fail
 refine Calls.mono HC.out ?_
 rintro e w4 ⟨rfl,hb4⟩
 replace d1 := cell_later hb4 d1
 replace q2 := cell_later hb4 q2
 have hB4 := Below.on hw hb4
 clear HC d0 d2 hb4
 by_cases h0 : k = 0
 ·subst h0
  have HK : Hid (K = true) := hid (by rw [HT.out]; simp)
  clear HT
  go_wp2
  go_ret
  exact ⟨ret_bool HK.out.symm,hB4⟩
 ·have g0 : ¬ (k : Int) = 0 := by omega
  have g1 : decide ((k : Int) = 0) = false := by simpa using g0
  have gk : ((k : Int) == 0) = false := by simpa using g0
  have HK : Hid (K = !decide (rf = ⟨#[]⟩)) := hid (by rw [HT.out,gk]; rfl)
  have e0 := empty_str rf
  generalize decide (rf = ⟨#[]⟩) = B at *
  clear HT
  go_wp2
  go_ret
  exact ⟨ret_bool HK.out.symm,hB4⟩
set_option maxRecDepth 100000 in
set_option maxHeartbeats 4000000 in
theorem mayUpdate_any {T : List Tbl} {m : Sq} (hB : SqB m) {w : World} {ta : Option Addr} {tn tc : Nat} {vb : Option Addr} {vm vd : Nat} (hT : IsT w T ta tn tc) {s : Sv} (hm : IsQ w m s) (hv : m.values.length = 1) :
  Calls Tryz.prog 31 #[.agg #[.slice ta tn tc,.slice vb vm vd],stV s] w fun en w' => en = .returned (.int .i64 (updP T m)) ∧ Below w.heap.size w w' := by
 have hw := bal (bal (Below.refl w.heap.size w) (.cells #[.slice ta tn tc,.slice vb vm vd] 38)) (svO s)
 have bs := (Bk.new w (.cells #[.slice ta tn tc,.slice vb vm vd] 38)).later (bal (Below.refl _ _) (svO s))
 have bq := Bk.new (w.alloc (.cells #[.slice ta tn tc,.slice vb vm vd] 38)) (svO s)
 rw [World.size_alloc] at bq
 generalize hW : (w.alloc (.cells #[.slice ta tn tc,.slice vb vm vd] 38)).alloc (svO s) = W at hw bs bq
 replace hT := hT.later hw
 replace hm := hm.later hw
 have y0 := bs.cell 0
 have y1 := bs.cell 1
 have z0 := bq.cell 0
 have z1 := bq.cell 1
 have z2 := bq.cell 2
 have z3 := bq.cell 3
 have z4 := bq.cell 4
 have z5 := bq.cell 5
 have z6 := bq.cell 6
 have z7 := bq.cell 7
 have z8 := bq.cell 8
 have z9 := bq.cell 9
 have z10 := bq.cell 10
 have z11 := bq.cell 11
 have z12 := bq.cell 12
 simp only [List.getElem?_toArray,List.getElem?_cons_zero,List.getElem?_cons_succ] at y0 y1 z0 z1 z2 z3 z4 z5 z6 z7 z8 z9 z10 z11 z12
 obtain ⟨x,hvx⟩ : ∃ x,m.values = [x] := by
  match hm2 : m.values,hv with
  | [x],_ => exact ⟨x,rfl⟩
 have hva := hm.va
 rw [hvx] at hva
 obtain ⟨l5a,l5b,l5c⟩ := hva.lens
 have hva' := hva
 obtain ⟨l9a,l9b,l9c⟩ := hm.wh.lens
 have k1 := hm.tb
 have k2 := hm.nm
 have HTb : Hid _ := hid (table_any hT.bd m.table hT.row vb vm vd)
 have HM : Hid (∀ t,lookT T m.table = some t → t.cols.length ≤ 500 ∧ t.cols ≠ []) := hid fun t h => ⟨(hT.bd.2 t (lookT_mem h)).2.1.1,hT.ne t (lookT_mem h)⟩
 have HU : Hid (updP T m = match lookT T m.table with | none => 9 | some t => updT t m) := hid rfl
 have HV : Hid (∀ t : Tbl,updT t m = if (clmK (colsT t) ⟨#[]⟩ m.name).2 ≠ 0 then (clmK (colsT t) ⟨#[]⟩ m.name).2 else if keptP t m.name then 24 else erL [fitsP (colsT t) x (clmK (colsT t) ⟨#[]⟩ m.name).1,whP (colsT t) m.wh]) := hid fun t => by unfold updT; rw [hvx]; rfl
 have HQ : Hid (∀ w',Below W.heap.size W w' → IsQ w' m s) := hid fun w' hb => hm.later hb
 generalize updP T m = R at *
 generalize lookT T m.table = L at *
 obtain ⟨sk,stb,snm,sco,sta,⟨va0,va1,va2⟩,sit,sjn,son,⟨wh0,wh1,wh2⟩,sod,sds,sinn⟩ := s
 dsimp only [stV,svO] at *
 obtain ⟨_,_,_,e',-,-,-,hx⟩ := hva
 cases e'
 obtain rfl : va1 = 1 := by simpa using l5a.symm
 obtain ⟨vbk,vo,rfl,-,hi⟩ := hx (by decide)
 obtain ⟨cs,hE,-,hcc⟩ := hi 0 (by simp)
 simp only [List.getElem_cons_zero] at hE
 have hE2 := hE
 obtain ⟨ea,en,ec,rfl,-⟩ := hE2
 simp only [exC] at *
 have p0 : W.cell? ⟨vbk,vo,none⟩ = some (.int .i64 x.1.1) := by have := hcc 0 (show 0 < 7 by decide); simpa [eG] using this
 have p1 : W.cell? ⟨vbk,vo + 1,none⟩ = some (.int .i64 x.1.2.1) := by have := hcc 1 (show 1 < 7 by decide); simpa [eG] using this
 have p2 : W.cell? ⟨vbk,vo + 2,none⟩ = some (.int .i64 x.1.2.2.1) := by have := hcc 2 (show 2 < 7 by decide); simpa [eG] using this
 have p3 : W.cell? ⟨vbk,vo + 3,none⟩ = some (.string x.1.2.2.2.1) := by have := hcc 3 (show 3 < 7 by decide); simpa [eG] using this
 have p4 : W.cell? ⟨vbk,vo + 4,none⟩ = some (.string x.1.2.2.2.2.1) := by have := hcc 4 (show 4 < 7 by decide); simpa [eG] using this
 have p5 : W.cell? ⟨vbk,vo + 5,none⟩ = some (.string x.1.2.2.2.2.2) := by have := hcc 5 (show 5 < 7 by decide); simpa [eG] using this
 have p6 : W.cell? ⟨vbk,vo + 6,none⟩ = some (.slice ea en ec) := by have := hcc 6 (show 6 < 7 by decide); simpa [eG] using this
 have HEx : Hid (∀ w',Below W.heap.size W w' → eG.E (fun _ => True) w' x [.int .i64 x.1.1,.int .i64 x.1.2.1,.int .i64 x.1.2.2.1,.string x.1.2.2.2.1,.string x.1.2.2.2.2.1,.string x.1.2.2.2.2.2,.slice ea en ec]) := hid fun w' hb => eG.keep (fun b _ hl => hb.block b hl) hE
 subst k1
 subst k2
 clear hT hm bs bq hx hi hcc hE hva' hvx l5a
 go_enter Tryz.func31,Tryz.ntmps31
 go_upto_region 1 with fail
 go_wp2_with fail
 refine Calls.mono HTb.out ?_
 rintro e w2 ⟨sn,a1,n1,k1,a2,n2,k2,is,rfl,his,hsome,hnone,hb2⟩
 have HSo : Hid _ := hid hsome
 have hB2 := Below.on hw hb2
 clear HTb hnone hsome y0 y1
 cases L with
 | none =>
  have hi : is = false := his
  subst hi
  obtain rfl : R = 9 := HU.out
  clear HSo HM HU his HV HQ HEx
  go_wp2
  go_ret
  exact ⟨rfl,bal hB2 _⟩
 | some t =>
  have hi : is = true := his
  subst hi
  have hRu : R = updT t m := HU.out
  obtain ⟨rfl,hr1,hr2⟩ := HSo.out t rfl
  obtain ⟨hc5,hcn⟩ := HM.out t rfl
  have hV := HV.out t
  rw [← hRu] at hV
  replace hV : Hid _ := hid hV
  have hw3 := bal (Below.refl w2.heap.size w2) (.cells #[.string t.name,.slice a1 n1 k1,.slice a2 n2 k2] 58)
  have bx := Bk.new w2 (.cells #[.string t.name,.slice a1 n1 k1,.slice a2 n2 k2] 58)
  have hr3 : RowIs eCol _ (w2.alloc (.cells #[.string t.name,.slice a1 n1 k1,.slice a2 n2 k2] 58)) (.slice a1 n1 k1) t.cols := hr1.keep (by decide) fun b _ hl => hw3.block b hl
  have hWB := Below.on hb2 hw3
  replace hB2 := Below.on hB2 hw3
  have HCo : Hid _ := hid (columns_any10 t hc5 hr3 a2 n2 k2)
  have hS5 : (colsT t).length ≤ 500 := by rw [colsT_len]; exact hc5
  have HPl : Hid _ := hid (@clmK_place t m.name)
  have HKe : Hid _ := hid fun (k : Nat) (hk : k < t.cols.length) (hf : fidx (fun c => eqS c.1 m.name) t.cols = k) w' (hb : Below (w2.alloc (.cells #[.string t.name,.slice a1 n1 k1,.slice a2 n2 k2] 58)).heap.size (w2.alloc (.cells #[.string t.name,.slice a1 n1 k1,.slice a2 n2 k2] 58)) w') => isKept_any t hc5 m.name hk hf (hr3.keep (by decide) fun b _ hl => hb.block b hl) a2 n2 k2
  clear HSo his HM hr1 hr2 HU HV hRu hb2 hw3 hr3
  go_upto_region 2 with fail
  generalize w2.alloc (.cells #[.string t.name,.slice a1 n1 k1,.slice a2 n2 k2] 58) = W2 at *
  have d0 := bx.cell 0
  have d1 := bx.cell 1
  have d2 := bx.cell 2
  simp only [List.getElem?_toArray,List.getElem?_cons_zero,List.getElem?_cons_succ] at d0 d1 d2
  generalize w2.heap.size = q2 at *
  clear bx
  go_wp2_with fail
  refine Calls.mono HCo.out ?_
  rintro e w4 ⟨a4,m4,c4,rfl,hb4,ho4⟩
  have hS4 := ho4.clm
  have hB4 := Below.on hB2 hb4
  have hWB4 := Below.on hWB hb4
  have u2 := cell_later hWB4 z2
  have HCl : Hid _ := hid (columnK_any hS5 ⟨#[]⟩ m.name hS4)
  replace d0 := cell_later hb4 d0
  replace d1 := cell_later hb4 d1
  replace d2 := cell_later hb4 d2
  have HS4 : Hid (∀ w',Below w4.heap.size w4 w' → RowIs eClm (fun _ => True) w' (.slice a4 m4 c4) (colsT t)) := hid fun w' hb => hS4.keep (by decide) fun b _ hl => hb.block b hl
  clear HCo ho4 hS4
  generalize (clmK (colsT t) ⟨#[]⟩ m.name).1 = K1 at *
  generalize (clmK (colsT t) ⟨#[]⟩ m.name).2 = K2 at *
  go_wp2_with fail
  refine Calls.mono HCl.out ?_
  rintro e w5 ⟨rfl,hb5⟩
  have hB5 := Below.on hB4 hb5
  have hWB5 := Below.on hWB4 hb5
  have hb45 := Below.on hb4 hb5
  replace u2 := cell_later hb5 u2
  replace d0 := cell_later hb5 d0
  replace d1 := cell_later hb5 d1
  replace d2 := cell_later hb5 d2
  clear HCl
  by_cases h2 : K2 = 0
  ·subst h2
   obtain ⟨k,hk,hf⟩ := HPl.out (by first | rfl | trivial)
   have HK2 : Hid _ := hid (HKe.out k hk hf w5 hb45)
   clear HPl HKe hk hf
   cases hkp : keptP t m.name with
   | true =>
    rw [hkp] at HK2
    obtain rfl : R = 24 := by rw [hV.out,hkp]; simp
    clear hV hkp
    go_wp2_with fail
    refine Calls.mono HK2.out ?_
    rintro e w6 ⟨rfl,hb6⟩
    clear HK2
    go_wp2
    go_ret
    exact ⟨rfl,Below.on hB5 hb6⟩
   | false =>
    rw [hkp] at HK2
    have hRe : erL [fitsP (colsT t) x K1,whP (colsT t) m.wh] = R := by rw [hV.out,hkp]; simp
    clear hV hkp
    go_wp2_with fail
    refine Calls.mono HK2.out ?_
    rintro e w6 ⟨rfl,hb6⟩
    have hB6 := Below.on hB5 hb6
    have hWB6 := Below.on hWB5 hb6
    have hb56 := Below.on hb5 hb6
    clear HK2 u2 d0 d1 d2
    have v5 := cell_later hWB6 z5
    have v9 := cell_later hWB6 z9
    replace p0 := cell_later hWB6 p0
    replace p1 := cell_later hWB6 p1
    replace p2 := cell_later hWB6 p2
    replace p3 := cell_later hWB6 p3
    replace p4 := cell_later hWB6 p4
    replace p5 := cell_later hWB6 p5
    replace p6 := cell_later hWB6 p6
    have G1 : Hid (∀ w',Below w6.heap.size w6 w' → _) := hid fun w' hb => fits_any hS5 x K1 (HS4.out w' (Below.on hb56 hb)) (HEx.out w' (Below.on hWB6 hb))
    have G2 : Hid (∀ w',Below w6.heap.size w6 w' → _) := hid fun w' hb => where_any hS5 hB.wh (HS4.out w' (Below.on hb56 hb)) (HQ.out w' (Below.on hWB6 hb)).wh
    generalize fitsP (colsT t) x K1 = e1 at *
    generalize whP (colsT t) m.wh = e2 at *
    have HOr := fun (w' : World) => or_any (l := [e1,e2]) (by simp) (row2_int w'.heap.size (cell_new w' #[.int .i64 e1,.int .i64 e2] 31 (0,0) 0) (cell_new w' #[.int .i64 e1,.int .i64 e2] 31 (0,0) 1))
    simp only [hRe] at HOr
    replace HOr : Hid _ := hid HOr
    have hC : Below w6.heap.size w6 w6.drew := (Below.refl _ w6).drew
    clear hRe HS4 HEx HQ hWB hWB4 hWB5 hWB6 hb4 hb5 hb6 hb45 hb56 hB2 hB4 hB5 hW z0 z1 z2 z3 z4 z5 z6 z7 z8 z9 z10 z11 z12
    generalize w.heap.size + 1 = q at *
    go_upto_region 10 with fail
    go_region_held (fun w' => w'.cell? ⟨q,5,none⟩ = some (.slice (some ⟨vbk,vo,none⟩) 1 va2) ∧ w'.cell? ⟨q,9,none⟩ = some (.slice wh0 wh1 wh2) ∧ w'.cell? ⟨vbk,vo,none⟩ = some (.int .i64 x.1.1) ∧ w'.cell? ⟨vbk,vo + 1,none⟩ = some (.int .i64 x.1.2.1) ∧ w'.cell? ⟨vbk,vo + 2,none⟩ = some (.int .i64 x.1.2.2.1) ∧ w'.cell? ⟨vbk,vo + 3,none⟩ = some (.string x.1.2.2.2.1) ∧ w'.cell? ⟨vbk,vo + 4,none⟩ = some (.string x.1.2.2.2.2.1) ∧ w'.cell? ⟨vbk,vo + 5,none⟩ = some (.string x.1.2.2.2.2.2) ∧ w'.cell? ⟨vbk,vo + 6,none⟩ = some (.slice ea en ec))
     (first | exact ⟨cell_later hC v5,cell_later hC v9,cell_later hC p0,cell_later hC p1,cell_later hC p2,cell_later hC p3,cell_later hC p4,cell_later hC p5,cell_later hC p6⟩ | exact ⟨cell_later (bal hC _) v5,cell_later (bal hC _) v9,cell_later (bal hC _) p0,cell_later (bal hC _) p1,cell_later (bal hC _) p2,cell_later (bal hC _) p3,cell_later (bal hC _) p4,cell_later (bal hC _) p5,cell_later (bal hC _) p6⟩)
     (first
     | (go_at_call 61; with_reducible refine Calls.mono (G1.out _ hC) ?_; rintro e z1 ⟨rfl,hb1⟩; replace hC := Below.on hC hb1)
     | (go_at_call 66; with_reducible refine Calls.mono (G2.out _ hC) ?_; rintro e z1 ⟨rfl,hb1⟩; replace hC := Below.on hC hb1)
     | (go_at_call 63; with_reducible refine Calls.mono (HOr.out _) ?_; rintro e z1 ⟨rfl,hb1⟩; replace hC := Below.on (bal hC _) hb1))
    all_goals
     go_wp2
     go_ret
     exact ⟨rfl,Below.on hB6 hC⟩
  ·obtain rfl : R = K2 := by rw [hV.out,if_pos h2]
   have ge : decide (R = 0) = false := by simpa using h2
   have gn : (R != 0) = true := by simpa using h2
   clear hV HPl HKe
   go_wp2
   go_ret
   exact ⟨rfl,hB5⟩

end Go.Proofs.YtljmlacnfnmjbaaGreat
namespace Go.Proofs.YtljmlacnfnmjbaaGreat
open Go.RowKit
set_option linter.unusedVariables false
set_option linter.unusedSimpArgs false

theorem formP_sel {m : Sq} {i : Nat} (hk : m.kind = 6) : formP m i = (formOnP m && decide (m.wh.length ≤ 1) && decide (m.order.length ≤ 1) && m.order.all colP1) := by unfold formP; simp [hk]
theorem formP_upd {m : Sq} {i : Nat} (hk : m.kind = 7) : formP m i = (decide (m.values.length = 1) && decide (m.wh.length ≤ 1)) := by unfold formP; simp [hk]

set_option maxRecDepth 100000 in
set_option maxHeartbeats 4000000 in
theorem check_sel {T : List Tbl} {m : Sq} (hB : SqB m) {w : World} {ta : Option Addr} {tn tc : Nat} {vb : Option Addr} {vm vd : Nat} (hT : IsT w T ta tn tc) {s : Sv} (hm : IsQ w m s) (hk : m.kind = 6) (hC5 : (fromC T m).length ≤ 500) :
  Calls Tryz.prog 15 #[.agg #[.slice ta tn tc,.slice vb vm vd],stV s] w fun en w' => en = .returned (.int .i64 (if formP m s.inn.2.1 then selP T m else 1)) ∧ Below w.heap.size w w' := by
 have hw := bal (bal (Below.refl w.heap.size w) (.cells #[.slice ta tn tc,.slice vb vm vd] 38)) (svO s)
 have bs := (Bk.new w (.cells #[.slice ta tn tc,.slice vb vm vd] 38)).later (bal (Below.refl _ _) (svO s))
 have bq := Bk.new (w.alloc (.cells #[.slice ta tn tc,.slice vb vm vd] 38)) (svO s)
 rw [World.size_alloc] at bq
 generalize hW : (w.alloc (.cells #[.slice ta tn tc,.slice vb vm vd] 38)).alloc (svO s) = W at hw bs bq
 replace hT := hT.later hw
 replace hm := hm.later hw
 have y0 := bs.cell 0
 have y1 := bs.cell 1
 have z0 := bq.cell 0
 have z1 := bq.cell 1
 have z2 := bq.cell 2
 have z3 := bq.cell 3
 have z4 := bq.cell 4
 have z5 := bq.cell 5
 have z6 := bq.cell 6
 have z7 := bq.cell 7
 have z8 := bq.cell 8
 have z9 := bq.cell 9
 have z10 := bq.cell 10
 have z11 := bq.cell 11
 have z12 := bq.cell 12
 simp only [List.getElem?_toArray,List.getElem?_cons_zero,List.getElem?_cons_succ] at y0 y1 z0 z1 z2 z3 z4 z5 z6 z7 z8 z9 z10 z11 z12
 have HFo : Hid _ := hid (formed_sel hB hm hk)
 have HM : Hid (formP m s.inn.2.1 = true → ∀ w',Below W.heap.size W w' → _) := hid fun hfm w' hb => (maySelect_any hB (hT.later hb) (hm.later hb) hC5 : Calls Tryz.prog 30 #[.agg #[.slice ta tn tc,.slice vb vm vd],stV s] w' _)
 obtain ⟨R,hR⟩ : ∃ R,(if formP m s.inn.2.1 then selP T m else 1) = R := ⟨_,rfl⟩
 rw [hR]
 have k0 : s.k = 6 := by rw [hm.k,hk]
 rw [k0] at z0
 generalize formP m s.inn.2.1 = B at *
 clear hT bs bq hB hk hC5
 obtain ⟨sk,stb,snm,⟨co0,co1,co2⟩,⟨ta0,ta1,ta2⟩,⟨va0,va1,va2⟩,⟨it0,it1,it2⟩,sjn,⟨on0,on1,on2⟩,⟨wh0,wh1,wh2⟩,⟨od0,od1,od2⟩,sds,⟨in0,in1,in2⟩⟩ := s
 dsimp only [stV,svO] at *
 subst k0
 clear hm
 cases B with
 | false =>
  have hR2 : (1 : Int) = R := hR
  subst hR2
  clear HM hR
  go_enter Tryz.func15,Tryz.ntmps15
  go_upto_region 1 with fail
  go_wp2_with fail
  refine Calls.mono HFo.out ?_
  rintro e w4 ⟨rfl,hb4⟩
  clear HFo
  go_wp2
  go_ret
  exact ⟨rfl,Below.on hw hb4⟩
 | true =>
  have hR2 : selP T m = R := hR
  clear hR
  go_enter Tryz.func15,Tryz.ntmps15
  go_upto_region 1 with fail
  go_wp2_with fail
  refine Calls.mono HFo.out ?_
  rintro e w4 ⟨rfl,hb4⟩
  have HM2 := HM.out (by first | rfl | trivial) w4 hb4
  rw [hR2] at HM2
  replace HM2 : Hid _ := hid HM2
  replace y0 := cell_later hb4 y0
  replace y1 := cell_later hb4 y1
  replace z0 := cell_later hb4 z0
  replace z1 := cell_later hb4 z1
  replace z2 := cell_later hb4 z2
  replace z3 := cell_later hb4 z3
  replace z4 := cell_later hb4 z4
  replace z5 := cell_later hb4 z5
  replace z6 := cell_later hb4 z6
  replace z7 := cell_later hb4 z7
  replace z8 := cell_later hb4 z8
  replace z9 := cell_later hb4 z9
  replace z10 := cell_later hb4 z10
  replace z11 := cell_later hb4 z11
  replace z12 := cell_later hb4 z12
  have hB4 := Below.on hw hb4
  clear HFo HM hR2 hW hb4 hw
  generalize w.heap.size + 1 = q at *
  go_wp2_with fail
  refine Calls.mono HM2.out ?_
  rintro e w5 ⟨rfl,hb5⟩
  clear HM2 y0 y1 z0 z1 z2 z3 z4 z5 z6 z7 z8 z9 z10 z11 z12
  go_wp2
  go_ret
  exact ⟨rfl,Below.on hB4 hb5⟩
set_option maxRecDepth 100000 in
set_option maxHeartbeats 4000000 in
theorem check_upd {T : List Tbl} {m : Sq} (hB : SqB m) {w : World} {ta : Option Addr} {tn tc : Nat} {vb : Option Addr} {vm vd : Nat} (hT : IsT w T ta tn tc) {s : Sv} (hm : IsQ w m s) (hk : m.kind = 7) :
  Calls Tryz.prog 15 #[.agg #[.slice ta tn tc,.slice vb vm vd],stV s] w fun en w' => en = .returned (.int .i64 (if formP m s.inn.2.1 then updP T m else 1)) ∧ Below w.heap.size w w' := by
 have hw := bal (bal (Below.refl w.heap.size w) (.cells #[.slice ta tn tc,.slice vb vm vd] 38)) (svO s)
 have bs := (Bk.new w (.cells #[.slice ta tn tc,.slice vb vm vd] 38)).later (bal (Below.refl _ _) (svO s))
 have bq := Bk.new (w.alloc (.cells #[.slice ta tn tc,.slice vb vm vd] 38)) (svO s)
 rw [World.size_alloc] at bq
 generalize hW : (w.alloc (.cells #[.slice ta tn tc,.slice vb vm vd] 38)).alloc (svO s) = W at hw bs bq
 replace hT := hT.later hw
 replace hm := hm.later hw
 have y0 := bs.cell 0
 have y1 := bs.cell 1
 have z0 := bq.cell 0
 have z1 := bq.cell 1
 have z2 := bq.cell 2
 have z3 := bq.cell 3
 have z4 := bq.cell 4
 have z5 := bq.cell 5
 have z6 := bq.cell 6
 have z7 := bq.cell 7
 have z8 := bq.cell 8
 have z9 := bq.cell 9
 have z10 := bq.cell 10
 have z11 := bq.cell 11
 have z12 := bq.cell 12
 simp only [List.getElem?_toArray,List.getElem?_cons_zero,List.getElem?_cons_succ] at y0 y1 z0 z1 z2 z3 z4 z5 z6 z7 z8 z9 z10 z11 z12
 have HFo : Hid _ := hid (formed_upd hB hm hk)
 have HM : Hid (formP m s.inn.2.1 = true → ∀ w',Below W.heap.size W w' → _) := hid fun hfm w' hb => by have hv : m.values.length = 1 := (by rw [formP_upd hk] at hfm; simp only [Bool.and_eq_true,decide_eq_true_eq] at hfm; exact hfm.1); exact (mayUpdate_any hB (hT.later hb) (hm.later hb) hv : Calls Tryz.prog 31 #[.agg #[.slice ta tn tc,.slice vb vm vd],stV s] w' _)
 obtain ⟨R,hR⟩ : ∃ R,(if formP m s.inn.2.1 then updP T m else 1) = R := ⟨_,rfl⟩
 rw [hR]
 have k0 : s.k = 7 := by rw [hm.k,hk]
 rw [k0] at z0
 generalize formP m s.inn.2.1 = B at *
 clear hT bs bq hB hk 
 obtain ⟨sk,stb,snm,⟨co0,co1,co2⟩,⟨ta0,ta1,ta2⟩,⟨va0,va1,va2⟩,⟨it0,it1,it2⟩,sjn,⟨on0,on1,on2⟩,⟨wh0,wh1,wh2⟩,⟨od0,od1,od2⟩,sds,⟨in0,in1,in2⟩⟩ := s
 dsimp only [stV,svO] at *
 subst k0
 clear hm
 cases B with
 | false =>
  have hR2 : (1 : Int) = R := hR
  subst hR2
  clear HM hR
  go_enter Tryz.func15,Tryz.ntmps15
  go_upto_region 1 with fail
  go_wp2_with fail
  refine Calls.mono HFo.out ?_
  rintro e w4 ⟨rfl,hb4⟩
  clear HFo
  go_wp2
  go_ret
  exact ⟨rfl,Below.on hw hb4⟩
 | true =>
  have hR2 : updP T m = R := hR
  clear hR
  go_enter Tryz.func15,Tryz.ntmps15
  go_upto_region 1 with fail
  go_wp2_with fail
  refine Calls.mono HFo.out ?_
  rintro e w4 ⟨rfl,hb4⟩
  have HM2 := HM.out (by first | rfl | trivial) w4 hb4
  rw [hR2] at HM2
  replace HM2 : Hid _ := hid HM2
  replace y0 := cell_later hb4 y0
  replace y1 := cell_later hb4 y1
  replace z0 := cell_later hb4 z0
  replace z1 := cell_later hb4 z1
  replace z2 := cell_later hb4 z2
  replace z3 := cell_later hb4 z3
  replace z4 := cell_later hb4 z4
  replace z5 := cell_later hb4 z5
  replace z6 := cell_later hb4 z6
  replace z7 := cell_later hb4 z7
  replace z8 := cell_later hb4 z8
  replace z9 := cell_later hb4 z9
  replace z10 := cell_later hb4 z10
  replace z11 := cell_later hb4 z11
  replace z12 := cell_later hb4 z12
  have hB4 := Below.on hw hb4
  clear HFo HM hR2 hW hb4 hw
  generalize w.heap.size + 1 = q at *
  go_wp2_with fail
  refine Calls.mono HM2.out ?_
  rintro e w5 ⟨rfl,hb5⟩
  clear HM2 y0 y1 z0 z1 z2 z3 z4 z5 z6 z7 z8 z9 z10 z11 z12
  go_wp2
  go_ret
  exact ⟨rfl,Below.on hB4 hb5⟩

end Go.Proofs.YtljmlacnfnmjbaaGreat
