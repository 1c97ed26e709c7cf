import Derived.Test.YtljmlacnfnmjbaaGreatTmaw
namespace Go.Proofs.YtljmlacnfnmjbaaGreat
open Go.RowKit
set_option linter.unusedVariables false
set_option linter.unusedSimpArgs false

/-- A statement as typed looks at it. -/
structure Sq where
 kind : Int
 table : ByteArray
 name : ByteArray
 values : List (Pg × Tg)
 items : List It
 join : ByteArray
 on : List (Pg × Tg)
 wh : List (Pg × Tg)
 order : List (Pg × Tg)
structure IsQ (w : World) (m : Sq) (s : Sv) : Prop where
 k : s.k = m.kind
 tb : s.tb = m.table
 nm : s.nm = m.name
 jn : s.jn = m.join
 va : RowIs eG (fun _ => True) w (.slice s.va.1 s.va.2.1 s.va.2.2) m.values
 it : RowIs eItem (fun _ => True) w (.slice s.it.1 s.it.2.1 s.it.2.2) m.items
 on : RowIs eG (fun _ => True) w (.slice s.on.1 s.on.2.1 s.on.2.2) m.on
 wh : RowIs eG (fun _ => True) w (.slice s.wh.1 s.wh.2.1 s.wh.2.2) m.wh
 od : RowIs eG (fun _ => True) w (.slice s.od.1 s.od.2.1 s.od.2.2) m.order
structure SqB (m : Sq) : Prop where
 va : m.values.length ≤ 500
 it : m.items.length ≤ 500
 on : m.on.length ≤ 500
 wh : m.wh.length ≤ 500
 od : m.order.length ≤ 500
theorem IsQ.later {w w' : World} {m : Sq} {s : Sv} (h : IsQ w m s) (hb : Below w.heap.size w w') : IsQ w' m s :=
 ⟨h.k,h.tb,h.nm,h.jn,h.va.keep (by decide) fun b _ hl => hb.block b hl,h.it.keep (by decide) fun b _ hl => hb.block b hl,h.on.keep (by decide) fun b _ hl => hb.block b hl,h.wh.keep (by decide) fun b _ hl => hb.block b hl,h.od.keep (by decide) fun b _ hl => hb.block b hl⟩
theorem RowIs.lens {α : Type} {e : Ek α} {Q : Nat → Prop} {w : World} {a : Option Addr} {n c : Nat} {l : List α} (h : RowIs e Q w (.slice a n c) l) : l.length = n ∧ n ≤ c ∧ c ≤ 9223372036854775807 := by
 obtain ⟨_,_,_,e',h1,h2,h3,_⟩ := h
 cases e'
 exact ⟨h1,h2,h3⟩
/-- Tables in memory,no views,none too long,each with a column. -/
structure IsT (w : World) (T : List Tbl) (ta : Option Addr) (tn tc : Nat) : Prop where
 row : RowIs eTbl (fun _ => True) w (.slice ta tn tc) T
 bd : AllB TblB T
 ne : ∀ t ∈ T,t.cols ≠ []
theorem IsT.later {w w' : World} {T : List Tbl} {ta : Option Addr} {tn tc : Nat} (h : IsT w T ta tn tc) (hb : Below w.heap.size w w') : IsT w' T ta tn tc := ⟨h.row.keep (by decide) fun b _ hl => hb.block b hl,h.bd,h.ne⟩
def lookE (T : List Tbl) (n : ByteArray) : Int := if (lookT T n).isSome then 0 else 9
def overE (T : List Tbl) (l : List ByteArray) : Int := erL (l.map (lookE T))
def overC (T : List Tbl) (l : List ByteArray) : List Cl3 := (l.filterMap (lookT T)).flatMap colsT
theorem lookT_mem {T : List Tbl} {n : ByteArray} {t : Tbl} (h : lookT T n = some t) : t ∈ T := List.mem_of_find?_eq_some h
theorem colsT_len (t : Tbl) : (colsT t).length = t.cols.length := by unfold colsT; rw [List.length_map]

set_option maxRecDepth 100000 in
set_option maxHeartbeats 4000000 in
theorem over1_any {T : List Tbl} (nm : ByteArray) {w1 w' : World} {bt : Nat} {ta : Option Addr} {tn tc : Nat} {vb : Option Addr} {vm vd : Nat} (hT : IsT w1 T ta tn tc) (hf0 : w1.cell? ⟨bt,0,none⟩ = some (.slice ta tn tc)) (hf1 : w1.cell? ⟨bt,1,none⟩ = some (.slice vb vm vd)) (hb : Below w1.heap.size w1 w') {a : Option Addr} {m d : Nat} {css : List (List Value)} (ho : OwnR 100 3 w1.heap.size w' (.slice a m d) css) (hl : css.length ≤ 500) :
  Calls Tryz.prog 99 #[.slice a m d,.string nm,.pointer (some ⟨bt,0,none⟩)] w' fun en w'' => ∃ a2 m2 d2,en = .returned (.tuple #[.slice a2 m2 d2,.int .i64 (lookE T nm)]) ∧ Below w1.heap.size w1 w'' ∧ ∀ t,lookT T nm = some t → OwnR 100 3 w1.heap.size w'' (.slice a2 m2 d2) (css ++ (colsT t).map clC) := by
 have HTb : Hid _ := hid (table_any hT.bd nm (hT.later hb).row vb vm vd)
 have HM : Hid (∀ t,lookT T nm = some t → t.cols.length ≤ 500 ∧ t.cols ≠ []) := hid fun t h => ⟨(hT.bd.2 t (lookT_mem h)).2.1.1,hT.ne t (lookT_mem h)⟩
 have c0 := cell_later hb hf0
 have c1 := cell_later hb hf1
 have HE : Hid (lookE T nm = if (lookT T nm).isSome then 0 else 9) := hid rfl
 generalize lookE T nm = E at *
 clear hT hf0 hf1
 generalize lookT T nm = L at *
 go_enter Tryz.func99,Tryz.ntmps99
 go_wp2_with fail
 refine Calls.mono HTb.out ?_
 rintro e w2 ⟨sn,a1,n1,k1,a2,n2,k2,is,rfl,his,hsome,hnone,hb2⟩
 have hB2 := Below.on hb hb2
 have ho2 := ho.later hb2
 have HSo : Hid _ := hid hsome
 clear HTb c0 c1 ho hb hnone hsome
 cases L with
 | none =>
  have hi : is = false := his
  subst hi
  obtain rfl : E = 9 := HE.out
  clear HSo HM HE his
  go_wp2
  refine bodyPost_ret (v := .tuple #[.slice none 0 0,.int .i64 9]) (by simp [results,Tryz.results99]) rfl ⟨none,0,0,rfl,bal hB2 _,fun t h => by cases h⟩
 | some t =>
  have hi : is = true := his
  subst hi
  obtain rfl : E = 0 := HE.out
  obtain ⟨rfl,hr1,hr2⟩ := HSo.out t rfl
  obtain ⟨hc5,hcn⟩ := HM.out t rfl
  have hw3 := bal (Below.refl w2.heap.size w2) (.cells #[.string t.name,.slice a1 n1 k1,.slice a2 n2 k2] 58)
  have HCo : Hid _ := hid (columns_any10 t hc5 (hr1.keep (w' := w2.alloc (.cells #[.string t.name,.slice a1 n1 k1,.slice a2 n2 k2] 58)) (by decide) fun b _ hl => hw3.block b hl) a2 n2 k2)
  have bx := Bk.new w2 (.cells #[.string t.name,.slice a1 n1 k1,.slice a2 n2 k2] 58)
  have ho3 := ho2.later hw3
  have hB3 := Below.on hB2 hw3
  clear HSo his HM hr1 hr2 ho2 hw3 hB2 HE
  go_upto_region 2 with fail
  generalize w2.alloc (.cells #[.string t.name,.slice a1 n1 k1,.slice a2 n2 k2] 58) = W at *
  have d0 := bx.cell 0
  have d1 := bx.cell 1
  have d2 := bx.cell 2
  simp only [List.getElem?_toArray,List.getElem?_cons_zero,List.getElem?_cons_succ] at d0 d1 d2
  clear bx
  go_wp2_with fail
  refine Calls.mono HCo.out ?_
  rintro e w4 ⟨a4,m4,d4,rfl,hb4,ho4⟩
  have ho5 := ho3.later hb4
  have hB5 := Below.on hB3 hb4
  have ho4' := OwnR.base ho4 hB3.size
  have hblk := ho5.blk
  have hne : (colsT t).map clC ≠ [] := by
   intro h
   have := congrArg List.length h
   rw [List.length_map,colsT_len] at this
   exact hcn (List.eq_nil_of_length_eq_zero this)
  have hll : css.length + ((colsT t).map clC).length ≤ 1000 := by rw [List.length_map,colsT_len]; omega
  have h1 := one_clms (colsT t)
  generalize hX : (colsT t).map clC = X at *
  have HX : Hid _ := hid hX
  clear hX
  clear HCo d0 d1 d2 ho3 hB3 hb4 ho4
  go_wp2_with (first | (at_builtin; go_must (refine wpList_appN Tryz.underlying70 Tryz.infoTClm rfl (by decide) (by decide) rfl (.tmp 17) (.tmp 19) rfl _ _ css X rfl rfl ho5 ho4' hne h1 hll hB5.size ?_)) | fail)
  intro v' w6 hO6 hg6 hown
  have hB6 := below_grows hB5 hB5.size hg6 fun k e => (hblk k e).1
  obtain ⟨a6,m6,d6,rfl⟩ := hO6.sl
  clear hg6 hown ho5 hB5 hblk ho4' h1 hne hll
  go_wp2
  refine bodyPost_ret (v := .tuple #[.slice a6 m6 d6,.int .i64 0]) (by simp [results,Tryz.results99]) rfl ⟨a6,m6,d6,rfl,hB6,fun t' h => ?_⟩
  cases h
  rw [HX.out]
  exact hO6

end Go.Proofs.YtljmlacnfnmjbaaGreat
namespace Go.Proofs.YtljmlacnfnmjbaaGreat
open Go.RowKit
set_option linter.unusedVariables false
set_option linter.unusedSimpArgs false

theorem overC_snoc (T : List Tbl) {l : List ByteArray} {i : Nat} (hi : i < l.length) {t : Tbl} (h : lookT T l[i] = some t) : overC T (l.take (i + 1)) = overC T (l.take i) ++ colsT t := by
 unfold overC
 rw [List.take_succ_eq_append_getElem hi,List.filterMap_append,List.flatMap_append]
 simp [List.filterMap_cons,h]
theorem lookE_ok {T : List Tbl} {n : ByteArray} (h : lookE T n = 0) : ∃ t,lookT T n = some t := by
 unfold lookE at h
 cases hl : lookT T n with
 | none => rw [hl] at h; simp at h
 | some t => exact ⟨t,rfl⟩
theorem overC_one {T : List Tbl} (hB : AllB TblB T) {l : List ByteArray} (h : l.length ≤ 1) : (overC T l).length ≤ 500 := by
 match l,h with
 | [],_ => simp [overC]
 | [n],_ =>
  unfold overC
  cases hl : lookT T n with
  | none => simp [List.filterMap_cons,hl]
  | some t =>
   have := (hB.2 t (lookT_mem hl)).2.1.1
   simpa [List.filterMap_cons,hl,colsT_len] using this
theorem row1_str (b : Nat) {w : World} {x : ByteArray} (h : w.cell? ⟨b,0,none⟩ = some (.string x)) : RowIs eStr (fun _ => True) w (.slice (some ⟨b,0,none⟩) 1 1) [x] :=
 ⟨_,1,1,rfl,rfl,Nat.le_refl _,by omega,fun _ => ⟨b,0,rfl,trivial,fun i hi => by
  have hi' : i < 1 := hi
  match i,hi' with
  | 0,_ =>
   refine ⟨_,rfl,rfl,fun j hj => ?_⟩
   have hj' : j < 1 := hj
   match j,hj' with
   | 0,_ => exact h⟩⟩
theorem Tryz.infoTStr2 : (Tryz.prog.info? 9).map (fun i => (i.zero,i.size,i.bytes)) = some (some (.string ⟨#[]⟩),1,16) := by kernel_rfl
def namesP (m : Sq) : List ByteArray := if m.join = ⟨#[]⟩ then [m.table] else [m.table,m.join]
def fromE (T : List Tbl) (m : Sq) : Int := if overE T (namesP m) = 0 ∧ m.join = m.table ∧ m.join ≠ ⟨#[]⟩ then 12 else overE T (namesP m)
def fromC (T : List Tbl) (m : Sq) : List Cl3 := overC T (namesP m)

set_option maxRecDepth 100000 in
set_option maxHeartbeats 4000000 in
theorem overT_any {T : List Tbl} {l : List ByteArray} (hl : l.length ≤ 2) {w : World} {ta : Option Addr} {tn tc : Nat} {vb : Option Addr} {vm vd : Nat} (hT : IsT w T ta tn tc) {Q : Nat → Prop} {ao : Option Addr} {n c : Nat} (h : RowIs eStr Q w (.slice ao n c) l) :
  Calls Tryz.prog 70 #[.agg #[.slice ta tn tc,.slice vb vm vd],.slice ao n c] w fun en w' => ∃ a m d,en = .returned (.tuple #[.slice a m d,.int .i64 (overE T l)]) ∧ Below w.heap.size w w' ∧ (overE T l = 0 → RowIs eClm (fun _ => True) w' (.slice a m d) (overC T l)) := by
 have hw := bal (Below.refl w.heap.size w) (.cells #[.slice ta tn tc,.slice vb vm vd] 38)
 have bx := Bk.new w (.cells #[.slice ta tn tc,.slice vb vm vd] 38)
 generalize hW : w.alloc (.cells #[.slice ta tn tc,.slice vb vm vd] 38) = W at hw bx
 have d0 := bx.cell 0
 have d1 := bx.cell 1
 simp only [List.getElem?_toArray,List.getElem?_cons_zero,List.getElem?_cons_succ] at d0 d1
 have hr1 : RowIs eStr Q W (.slice ao n c) l := h.keep (by decide) fun b _ hl => hw.block b hl
 have hT1 : IsT W T ta tn tc := hT.later hw
 have hcf : ∀ args w',(callFunc 99 args).run Tryz.prog w' = .ok (.enter 99 args) w' := fun args w' => by rfl
 have HE : erO (fun i => ((l.map (lookE T))[i]?).getD 0) l.length = overE T l := by
  have := erO_list (l := l.map (lookE T)) (er := fun i => ((l.map (lookE T))[i]?).getD 0) fun i hi => by rw [List.getElem?_eq_getElem hi]; rfl
  rwa [List.length_map] at this
 have HC := foldStSc (Nat.le_trans hl (by decide)) hr1 (caps := #[.pointer (some ⟨w.heap.size,0,none⟩)]) hcf (fun i => ((l.map (lookE T))[i]?).getD 0) (fun i w' a m d => Below W.heap.size W w' ∧ OwnR 100 3 W.heap.size w' (.slice a m d) ((overC T (l.take i)).map clC))
  (fun i w' a m d hI => hI.1) (fun i w' a m d o hI => ⟨bal hI.1 o,hI.2.alloc o⟩) (a0 := none) (m0 := 0) (d0 := 0) ⟨Below.refl _ _,OwnR.nil _ _ _ _⟩
  (fun i hi w' a m d hI => by
   have hle : ((overC T (l.take i)).map clC).length ≤ 500 := by rw [List.length_map]; exact overC_one hT.bd (by rw [List.length_take]; omega)
   refine Calls.mono (over1_any l[i] hT1 d0 d1 hI.1 hI.2 hle) ?_
   rintro en w'' ⟨a2,m2,d2,rfl,hb2,ho2⟩
   have he : ((l.map (lookE T))[i]?).getD 0 = lookE T l[i] := by rw [List.getElem?_eq_getElem (by simpa using hi),List.getElem_map]; rfl
   refine ⟨a2,m2,d2,by rw [he],hb2,fun h0 => ⟨hb2,?_⟩⟩
   rw [he] at h0
   obtain ⟨t,ht⟩ := lookE_ok h0
   rw [overC_snoc T hi ht,List.map_append]
   exact ho2 t ht)
 rw [HE] at HC
 generalize overE T l = E at *
 replace HC : Hid _ := hid HC
 clear hr1 hcf h HE hT hT1 bx d0 d1
 go_enter Tryz.func70,Tryz.ntmps70
 go_upto_region 1 with fail
 go_wp2_with fail
 refine Calls.mono HC.out ?_
 rintro e w4 ⟨a,m,d,rfl,hb4,hI⟩
 have HI : Hid _ := hid hI
 clear HC hI
 go_wp2
 refine bodyPost_ret (v := .tuple #[.slice a m d,.int .i64 E]) (by simp [results,Tryz.results70]) rfl ⟨a,m,d,rfl,Below.on hw hb4,fun h0 => ?_⟩
 have ho := (HI.out h0).2
 rw [List.take_length] at ho
 exact ho.clm
set_option maxRecDepth 100000 in
set_option maxHeartbeats 4000000 in
theorem from_any {T : List Tbl} {m : Sq} (hB : SqB m) {w : World} {ta : Option Addr} {tn tc : Nat} {vb : Option Addr} {vm vd : Nat} (hT : IsT w T ta tn tc) {s : Sv} (hm : IsQ w m s) :
  Calls Tryz.prog 62 #[.agg #[.slice ta tn tc,.slice vb vm vd],stV s] w fun en w' => ∃ a n c,en = .returned (.tuple #[.slice a n c,.int .i64 (fromE T m)]) ∧ Below w.heap.size w w' ∧ (fromE T m = 0 → RowIs eClm (fun _ => True) w' (.slice a n c) (fromC T m)) := by
 have hw := bal (bal (Below.refl w.heap.size w) (.cells #[.slice ta tn tc,.slice vb vm vd] 38)) (svO s)
 have bs := (Bk.new w (.cells #[.slice ta tn tc,.slice vb vm vd] 38)).later (bal (Below.refl _ _) (svO s))
 have bq := Bk.new (w.alloc (.cells #[.slice ta tn tc,.slice vb vm vd] 38)) (svO s)
 rw [World.size_alloc] at bq
 generalize hW : (w.alloc (.cells #[.slice ta tn tc,.slice vb vm vd] 38)).alloc (svO s) = W at hw bs bq
 replace hT := hT.later hw
 replace hm := hm.later hw
 have y0 := bs.cell 0
 have y1 := bs.cell 1
 have z0 := bq.cell 0
 have z1 := bq.cell 1
 have z2 := bq.cell 2
 have z3 := bq.cell 3
 have z4 := bq.cell 4
 have z5 := bq.cell 5
 have z6 := bq.cell 6
 have z7 := bq.cell 7
 have z8 := bq.cell 8
 have z9 := bq.cell 9
 have z10 := bq.cell 10
 have z11 := bq.cell 11
 have z12 := bq.cell 12
 simp only [List.getElem?_toArray,List.getElem?_cons_zero,List.getElem?_cons_succ] at y0 y1 z0 z1 z2 z3 z4 z5 z6 z7 z8 z9 z10 z11 z12
 obtain ⟨k0,k1,k2,k3,-,-,-,-,-⟩ := hm
 have HF : Hid (fromE T m = if overE T (namesP m) = 0 ∧ m.join = m.table ∧ m.join ≠ ⟨#[]⟩ then 12 else overE T (namesP m)) := hid rfl
 have HN : Hid (namesP m = if m.join = ⟨#[]⟩ then [m.table] else [m.table,m.join]) := hid rfl
 have HFC : Hid (fromC T m = overC T (namesP m)) := hid rfl
 obtain ⟨sk,stb,snm,sco,sta,sva,sit,sjn,son,swh,sod,sds,sinn⟩ := s
 dsimp only [stV,svO] at *
 rw [← k1,← k3] at HF HN
 clear k0 k1 k2 k3
 generalize fromE T m = E at *
 generalize fromC T m = C at *
 generalize namesP m = NS at *
 clear hB bs bq
 by_cases hj : sjn = ⟨#[]⟩
 ·obtain rfl : NS = [stb] := by rw [HN.out,if_pos hj]
  have hw2 := bal (Below.refl W.heap.size W) (.cells #[.string stb] 9)
  have HO : Hid _ := hid (overT_any (l := [stb]) (by simp) (vb := vb) (vm := vm) (vd := vd) (hT.later hw2) (row1_str W.heap.size (cell_new W #[.string stb] 9 (0,0) 0)))
  obtain rfl : E = overE T [stb] := by rw [HF.out,if_neg (by rintro ⟨_,_,h⟩; exact h hj)]
  obtain rfl : C = overC T [stb] := HFC.out
  generalize overE T [stb] = E1 at *
  generalize overC T [stb] = C1 at *
  replace y0 := cell_later hw2 y0
  replace y1 := cell_later hw2 y1
  have zz1 := cell_later hw2 z1
  have zz7 := cell_later hw2 z7
  have e0 : sjn.toList.isEmpty = true := by rw [empty_str]; simpa using hj
  clear HF HN HFC hT hj
  go_enter Tryz.func62,Tryz.ntmps62
  go_upto_region 1 with fail
  go_wp2_with fail
  refine Calls.mono HO.out ?_
  rintro e w4 ⟨a4,n4,c4,rfl,hb4,hr4⟩
  have HR : Hid _ := hid hr4
  replace zz1 := cell_later hb4 zz1
  replace zz7 := cell_later hb4 zz7
  have hB4 := Below.on hw (Below.on hw2 hb4)
  clear HO hr4
  by_cases he : E1 = 0
  ·subst he
   cases hq : (sjn.toList == stb.toList) with
   | true =>
    go_wp2
    exact bodyPost_ret (v := .tuple #[.slice a4 n4 c4,.int .i64 0]) (by simp [results,Tryz.results62]) rfl ⟨a4,n4,c4,rfl,hB4,by first | exact HR.out | exact HR.out trivial | exact fun _ => HR.out trivial | trivial | (intro h; exact absurd h he)⟩
   | false =>
    go_wp2
    exact bodyPost_ret (v := .tuple #[.slice a4 n4 c4,.int .i64 0]) (by simp [results,Tryz.results62]) rfl ⟨a4,n4,c4,rfl,hB4,by first | exact HR.out | exact HR.out trivial | exact fun _ => HR.out trivial | trivial | (intro h; exact absurd h he)⟩
  ·have ge : decide (E1 = 0) = false := by simpa using he
   go_wp2
   exact bodyPost_ret (v := .tuple #[.slice a4 n4 c4,.int .i64 E1]) (by simp [results,Tryz.results62]) rfl ⟨a4,n4,c4,rfl,hB4,by first | exact HR.out | exact HR.out trivial | exact fun _ => HR.out trivial | trivial | (intro h; exact absurd h he)⟩
 ·obtain rfl : NS = [stb,sjn] := by rw [HN.out,if_neg hj]
  have HC0 : Hid (overC T [stb,sjn] = C) := hid HFC.out.symm
  have HE : Hid (E = if overE T [stb,sjn] = 0 ∧ sjn = stb then 12 else overE T [stb,sjn]) := hid (by
   rw [HF.out]
   by_cases h1 : overE T [stb,sjn] = 0 ∧ sjn = stb
   ·rw [if_pos h1,if_pos ⟨h1.1,h1.2,hj⟩]
   ·rw [if_neg h1,if_neg (by rintro ⟨a,b,_⟩; exact h1 ⟨a,b⟩)])
  have e0 : sjn.toList.isEmpty = false := by rw [empty_str]; simpa using hj
  have hw2 := bal (Below.refl W.heap.size W) (.cells #[.string stb] 9)
  have hw3 := bal hw2 (.cells #[.string sjn] 9)
  have ho := OwnR.alloc (OwnR.lit 9 1 W.heap.size W [.string stb] rfl (Nat.le_refl _)) (.cells #[.string sjn] 9)
  have hnew := newK1 (W.alloc (.cells #[.string stb] 9)) (.string sjn) 9
  have zz1 := cell_later hw2 z1
  have zz7 := cell_later hw2 z7
  have HTl : Hid (∀ w2,Below W.heap.size W w2 → IsT w2 T ta tn tc) := hid fun w2 hb => hT.later hb
  have HCl : Hid (∀ w2,Below W.heap.size W w2 → w2.cell? ⟨w.heap.size,0,none⟩ = some (.slice ta tn tc) ∧ w2.cell? ⟨w.heap.size,1,none⟩ = some (.slice vb vm vd) ∧ w2.cell? ⟨w.heap.size + 1,1,none⟩ = some (.string stb) ∧ w2.cell? ⟨w.heap.size + 1,7,none⟩ = some (.string sjn)) := hid fun w2 hb => ⟨cell_later hb y0,cell_later hb y1,cell_later hb z1,cell_later hb z7⟩
  clear HF HN HFC hT
  go_enter Tryz.func62,Tryz.ntmps62
  go_upto_region 1 with fail
  go_upto_region 3 with fail
  simp only [World.size_alloc] at hnew
  go_wp2_with (first | (at_builtin; go_must (refine wpList_appR Tryz.underlying56 Tryz.infoTStr2 rfl (by decide) (by decide) rfl (.tmp 15) (.tmp 18) rfl _ [[.string stb]] (W.heap.size + 1) [.string sjn] rfl rfl ho rfl (by simp [Value.oneCell']) hnew (by simp) hw3.size ?_)) | fail)
  intro v' w6 hO6 hg6 hown
  have hB6 := below_grows hw3 hw3.size hg6 fun k e => by simp [Value.ownBlock] at e; omega
  obtain ⟨a6,m6,d6,rfl⟩ := hO6.sl
  have hr6 : RowIs eStr (fun _ => True) w6 (.slice a6 m6 d6) [stb,sjn] := OwnR.rowE (e := eStr) hO6 rfl (fun _ _ _ => trivial) fun i h1 h2 => by
   have hi : i < 2 := h1
   match i,hi with
   | 0,_ => rfl
   | 1,_ => rfl
  have HO := overT_any (l := [stb,sjn]) (by simp) (vb := vb) (vm := vm) (vd := vd) (HTl.out w6 hB6) hr6
  rw [HC0.out] at HO
  replace HO : Hid _ := hid HO
  obtain ⟨u0,u1,u2,u3⟩ := HCl.out w6 hB6
  clear hg6 hown ho hw3 hw2 hnew hO6 hr6 zz1 zz7 HTl HCl y0 y1 z0 z1 z2 z3 z4 z5 z6 z7 z8 z9 z10 z11 z12 hW
  generalize overE T [stb,sjn] = E1 at *
  go_wp2_with fail
  refine Calls.mono HO.out ?_
  rintro e w4 ⟨a4,n4,c4,rfl,hb4,hr4⟩
  have HR : Hid _ := hid hr4
  replace u2 := cell_later hb4 u2
  replace u3 := cell_later hb4 u3
  have hB4 := Below.on hw (Below.on hB6 hb4)
  clear HO hr4
  by_cases he : E1 = 0
  ·subst he
   by_cases hq : sjn = stb
   ·subst hq
    obtain rfl : E = 12 := by rw [HE.out]; simp
    clear HE
    go_wp2
    exact bodyPost_ret (v := .tuple #[.slice none 0 0,.int .i64 12]) (by simp [results,Tryz.results62]) rfl ⟨none,0,0,rfl,hB4,fun h => by cases h⟩
   ·obtain rfl : E = 0 := by rw [HE.out,if_neg (by rintro ⟨_,h⟩; exact hq h)]
    have gq := ne_str hq
    clear HE
    go_wp2
    exact bodyPost_ret (v := .tuple #[.slice a4 n4 c4,.int .i64 0]) (by simp [results,Tryz.results62]) rfl ⟨a4,n4,c4,rfl,hB4,by first | exact HR.out | exact HR.out trivial | exact fun _ => HR.out trivial | trivial | (intro h; exact absurd h he)⟩
  ·obtain rfl : E = E1 := by rw [HE.out,if_neg (by rintro ⟨h,_⟩; exact he h)]
   have ge : decide (E = 0) = false := by simpa using he
   clear HE
   go_wp2
   exact bodyPost_ret (v := .tuple #[.slice a4 n4 c4,.int .i64 E]) (by simp [results,Tryz.results62]) rfl ⟨a4,n4,c4,rfl,hB4,by first | exact HR.out | exact HR.out trivial | exact fun _ => HR.out trivial | trivial | (intro h; exact absurd h he)⟩

end Go.Proofs.YtljmlacnfnmjbaaGreat
namespace Go.Proofs.YtljmlacnfnmjbaaGreat
open Go.RowKit
set_option linter.unusedVariables false
set_option linter.unusedSimpArgs false

def formOnP (m : Sq) : Bool := if m.join = ⟨#[]⟩ then decide (m.on.length = 0) else decide (m.on.length = 2) && m.on.all colP1
def formP (m : Sq) (inn : Nat) : Bool :=
 if m.kind = 3 ∨ m.kind = 4 then decide (inn = 1)
 else if m.kind = 6 then formOnP m && decide (m.wh.length ≤ 1) && decide (m.order.length ≤ 1) && m.order.all colP1
 else if m.kind = 7 then decide (m.values.length = 1) && decide (m.wh.length ≤ 1)
 else if m.kind = 8 then decide (m.wh.length ≤ 1)
 else decide (1 ≤ m.kind) && decide (m.kind ≤ 13)
def selP (T : List Tbl) (m : Sq) : Int := if fromE T m ≠ 0 then fromE T m else erL [onCP (fromC T m) m.on,itmsP (fromC T m) m.items m.order.length,whP (fromC T m) m.wh,orderKP (fromC T m) m.order]
theorem row4_int (b : Nat) {w : World} {x y z u : Int} (h0 : w.cell? ⟨b,0,none⟩ = some (.int .i64 x)) (h1 : w.cell? ⟨b,1,none⟩ = some (.int .i64 y)) (h2 : w.cell? ⟨b,2,none⟩ = some (.int .i64 z)) (h3 : w.cell? ⟨b,3,none⟩ = some (.int .i64 u)) : RowIs eInt (fun _ => True) w (.slice (some ⟨b,0,none⟩) 4 4) [x,y,z,u] :=
 ⟨_,4,4,rfl,rfl,Nat.le_refl _,by omega,fun _ => ⟨b,0,rfl,trivial,fun i hi => by
  have hi' : i < 4 := hi
  match i,hi' with
  | 0,_ =>
   refine ⟨_,rfl,rfl,fun j hj => ?_⟩
   have hj' : j < 1 := hj
   match j,hj' with
   | 0,_ => exact h0
  | 1,_ =>
   refine ⟨_,rfl,rfl,fun j hj => ?_⟩
   have hj' : j < 1 := hj
   match j,hj' with
   | 0,_ => exact h1
  | 2,_ =>
   refine ⟨_,rfl,rfl,fun j hj => ?_⟩
   have hj' : j < 1 := hj
   match j,hj' with
   | 0,_ => exact h2
  | 3,_ =>
   refine ⟨_,rfl,rfl,fun j hj => ?_⟩
   have hj' : j < 1 := hj
   match j,hj' with
   | 0,_ => exact h3⟩⟩
theorem row2_int (b : Nat) {w : World} {x y : Int} (h0 : w.cell? ⟨b,0,none⟩ = some (.int .i64 x)) (h1 : w.cell? ⟨b,1,none⟩ = some (.int .i64 y)) : RowIs eInt (fun _ => True) w (.slice (some ⟨b,0,none⟩) 2 2) [x,y] :=
 ⟨_,2,2,rfl,rfl,Nat.le_refl _,by omega,fun _ => ⟨b,0,rfl,trivial,fun i hi => by
  have hi' : i < 2 := hi
  match i,hi' with
  | 0,_ =>
   refine ⟨_,rfl,rfl,fun j hj => ?_⟩
   have hj' : j < 1 := hj
   match j,hj' with
   | 0,_ => exact h0
  | 1,_ =>
   refine ⟨_,rfl,rfl,fun j hj => ?_⟩
   have hj' : j < 1 := hj
   match j,hj' with
   | 0,_ => exact h1⟩⟩

set_option maxRecDepth 100000 in
set_option maxHeartbeats 4000000 in
theorem formedOn_any {m : Sq} (hB : SqB m) {w : World} {s : Sv} (hm : IsQ w m s) : Calls Tryz.prog 55 #[stV s] w fun en w' => en = .returned (.bool (formOnP m)) ∧ Below w.heap.size w w' := by
 have hw := bal (Below.refl w.heap.size w) (svO s)
 have bq := Bk.new w (svO s)
 generalize hW : w.alloc (svO s) = W at hw bq
 replace hm := hm.later hw
 have z0 := bq.cell 0
 have z1 := bq.cell 1
 have z2 := bq.cell 2
 have z3 := bq.cell 3
 have z4 := bq.cell 4
 have z5 := bq.cell 5
 have z6 := bq.cell 6
 have z7 := bq.cell 7
 have z8 := bq.cell 8
 have z9 := bq.cell 9
 have z10 := bq.cell 10
 have z11 := bq.cell 11
 have z12 := bq.cell 12
 simp only [List.getElem?_toArray,List.getElem?_cons_zero,List.getElem?_cons_succ] at z0 z1 z2 z3 z4 z5 z6 z7 z8 z9 z10 z11 z12
 have HA : Hid _ := hid (allEx hB.on hm.on (isColT_such W))
 have HF : Hid (formOnP m = if m.join = ⟨#[]⟩ then decide (m.on.length = 0) else decide (m.on.length = 2) && m.on.all colP1) := hid rfl
 obtain ⟨-,-,-,k3,-,-,hon,-,-⟩ := hm
 obtain ⟨l1,l2,l3⟩ := hon.lens
 obtain ⟨sk,stb,snm,sco,sta,sva,sit,sjn,⟨on0,on1,on2⟩,swh,sod,sds,sinn⟩ := s
 dsimp only [stV,svO] at *
 rw [← k3,l1] at HF
 generalize formOnP m = T at *
 generalize m.on.all colP1 = A at *
 clear hon l1 k3 hB bq
 by_cases hj : sjn = ⟨#[]⟩
 ·have HT : Hid (T = decide (on1 = 0)) := hid (by rw [HF.out,if_pos hj])
  have e0 : sjn.toList.isEmpty = true := by rw [empty_str]; simpa using hj
  clear HF HA hj
  go_enter Tryz.func55,Tryz.ntmps55
  go_upto_region 1 with fail
  go_wp2
  go_ret
  refine ⟨ret_bool ?_,hw⟩
  rw [HT.out,Bool.eq_iff_iff]
  simp
 ·have HT : Hid (T = (decide (on1 = 2) && A)) := hid (by rw [HF.out,if_neg hj])
  have e0 : sjn.toList.isEmpty = false := by rw [empty_str]; simpa using hj
  clear HF
  by_cases h2 : on1 = 2
  ·have HT2 : Hid (T = A) := hid (by rw [HT.out,h2]; simp)
   subst h2
   clear HT
   go_enter Tryz.func55,Tryz.ntmps55
   go_upto_region 1 with fail
   go_wp2_with fail
   refine Calls.mono HA.out ?_
   rintro e w4 ⟨rfl,hb4⟩
   clear HA
   go_wp2
   go_ret
   exact ⟨ret_bool HT2.out.symm,Below.on hw hb4⟩
  ·have HT2 : Hid (T = false) := hid (by rw [HT.out]; simp [h2])
   have g2 : ¬ (on1 : Int) = 2 := by omega
   have g3 : decide ((on1 : Int) = 2) = false := by simpa using g2
   clear HT HA
   go_enter Tryz.func55,Tryz.ntmps55
   go_upto_region 1 with fail
   go_wp2
   go_ret
   exact ⟨ret_bool HT2.out.symm,hw⟩
set_option maxRecDepth 100000 in
set_option maxHeartbeats 4000000 in
theorem formed_sel {m : Sq} (hB : SqB m) {w : World} {s : Sv} (hm : IsQ w m s) (hk : m.kind = 6) : Calls Tryz.prog 28 #[stV s] w fun en w' => en = .returned (.bool (formP m s.inn.2.1)) ∧ Below w.heap.size w w' := by
 have hw := bal (Below.refl w.heap.size w) (svO s)
 have bq := Bk.new w (svO s)
 generalize hW : w.alloc (svO s) = W at hw bq
 replace hm := hm.later hw
 have z0 := bq.cell 0
 have z1 := bq.cell 1
 have z2 := bq.cell 2
 have z3 := bq.cell 3
 have z4 := bq.cell 4
 have z5 := bq.cell 5
 have z6 := bq.cell 6
 have z7 := bq.cell 7
 have z8 := bq.cell 8
 have z9 := bq.cell 9
 have z10 := bq.cell 10
 have z11 := bq.cell 11
 have z12 := bq.cell 12
 simp only [List.getElem?_toArray,List.getElem?_cons_zero,List.getElem?_cons_succ] at z0 z1 z2 z3 z4 z5 z6 z7 z8 z9 z10 z11 z12
 have HO : Hid _ := hid (formedOn_any hB hm)
 have HA : Hid (∀ w',Below W.heap.size W w' → _) := hid fun w' hb => allEx hB.od (hm.later hb).od (isColT_such w')
 have HF : Hid (formP m s.inn.2.1 = (formOnP m && decide (m.wh.length ≤ 1) && decide (m.order.length ≤ 1) && m.order.all colP1)) := hid (by unfold formP; simp [hk])
 obtain ⟨k0,-,-,-,-,-,-,hwh,hod⟩ := hm
 obtain ⟨l1,l2,l3⟩ := hwh.lens
 obtain ⟨r1,r2,r3⟩ := hod.lens
 obtain ⟨sk,stb,snm,sco,sta,sva,sit,sjn,son,⟨wh0,wh1,wh2⟩,⟨od0,od1,od2⟩,sds,sinn⟩ := s
 dsimp only [stV,svO] at *
 rw [l1,r1] at HF
 obtain rfl : sk = 6 := by rw [k0,hk]
 generalize formP m sinn.2.1 = T at *
 generalize m.order.all colP1 = A at *
 generalize formOnP m = O at *
 clear hwh hod l1 r1 k0 hB bq hk
 cases O with
 | false =>
  have HT : Hid (T = false) := hid (by rw [HF.out]; simp)
  clear HF HA
  go_enter Tryz.func28,Tryz.ntmps28
  go_upto_region 1 with fail
  go_wp2_with fail
  refine Calls.mono HO.out ?_
  rintro e w4 ⟨rfl,hb4⟩
  clear HO
  go_wp2
  go_ret
  exact ⟨ret_bool HT.out.symm,Below.on hw hb4⟩
 | true =>
  go_enter Tryz.func28,Tryz.ntmps28
  go_upto_region 1 with fail
  go_wp2_with fail
  refine Calls.mono HO.out ?_
  rintro e w4 ⟨rfl,hb4⟩
  have z9' := cell_later hb4 z9
  have z10' := cell_later hb4 z10
  have HA2 : Hid _ := hid (HA.out w4 hb4)
  have hB4 := Below.on hw hb4
  clear HO HA hb4 z0 z1 z2 z3 z4 z5 z6 z7 z8 z9 z10 z11 z12 hW
  by_cases h1 : wh1 ≤ 1
  ·have g1 : (wh1 : Int) ≤ 1 := by omega
   by_cases h2 : od1 ≤ 1
   ·have g2 : (od1 : Int) ≤ 1 := by omega
    have HT : Hid (T = A) := hid (by rw [HF.out]; simp [h1,h2])
    clear HF
    go_wp2_with fail
    refine Calls.mono HA2.out ?_
    rintro e w5 ⟨rfl,hb5⟩
    clear HA2
    go_wp2
    go_ret
    exact ⟨ret_bool HT.out.symm,Below.on hB4 hb5⟩
   ·have HT : Hid (T = false) := hid (by rw [HF.out]; simp [h2])
    have g2 : ¬ (od1 : Int) ≤ 1 := by omega
    have q2 : decide ((od1 : Int) ≤ 1) = false := by simpa using g2
    clear HF HA2
    go_wp2
    go_ret
    exact ⟨ret_bool HT.out.symm,hB4⟩
  ·have HT : Hid (T = false) := hid (by rw [HF.out]; simp [h1])
   have g1 : ¬ (wh1 : Int) ≤ 1 := by omega
   have q1 : decide ((wh1 : Int) ≤ 1) = false := by simpa using g1
   clear HF HA2
   go_wp2
   go_ret
   exact ⟨ret_bool HT.out.symm,hB4⟩
set_option maxRecDepth 100000 in
set_option maxHeartbeats 4000000 in
theorem formed_upd {m : Sq} (hB : SqB m) {w : World} {s : Sv} (hm : IsQ w m s) (hk : m.kind = 7) : Calls Tryz.prog 28 #[stV s] w fun en w' => en = .returned (.bool (formP m s.inn.2.1)) ∧ Below w.heap.size w w' := by
 have hw := bal (Below.refl w.heap.size w) (svO s)
 have bq := Bk.new w (svO s)
 generalize hW : w.alloc (svO s) = W at hw bq
 replace hm := hm.later hw
 have z0 := bq.cell 0
 have z1 := bq.cell 1
 have z2 := bq.cell 2
 have z3 := bq.cell 3
 have z4 := bq.cell 4
 have z5 := bq.cell 5
 have z6 := bq.cell 6
 have z7 := bq.cell 7
 have z8 := bq.cell 8
 have z9 := bq.cell 9
 have z10 := bq.cell 10
 have z11 := bq.cell 11
 have z12 := bq.cell 12
 simp only [List.getElem?_toArray,List.getElem?_cons_zero,List.getElem?_cons_succ] at z0 z1 z2 z3 z4 z5 z6 z7 z8 z9 z10 z11 z12
 have HF : Hid (formP m s.inn.2.1 = (decide (m.values.length = 1) && decide (m.wh.length ≤ 1))) := hid (by unfold formP; simp [hk])
 obtain ⟨k0,-,-,-,hva,-,-,hwh,-⟩ := hm
 obtain ⟨l1,l2,l3⟩ := hwh.lens
 obtain ⟨r1,r2,r3⟩ := hva.lens
 obtain ⟨sk,stb,snm,sco,sta,⟨va0,va1,va2⟩,sit,sjn,son,⟨wh0,wh1,wh2⟩,sod,sds,sinn⟩ := s
 dsimp only [stV,svO] at *
 rw [l1,r1] at HF
 obtain rfl : sk = 7 := by rw [k0,hk]
 generalize formP m sinn.2.1 = T at *
 clear hwh hva l1 r1 k0 hB bq hk
 by_cases h1 : va1 = 1
 ·subst h1
  by_cases h2 : wh1 ≤ 1
  ·have g2 : (wh1 : Int) ≤ 1 := by omega
   have HT : Hid (T = true) := hid (by rw [HF.out]; simp [h2])
   clear HF
   go_enter Tryz.func28,Tryz.ntmps28
   go_upto_region 1 with fail
   go_wp2
   go_ret
   exact ⟨ret_bool HT.out.symm,hw⟩
  ·have g2 : ¬ (wh1 : Int) ≤ 1 := by omega
   have q2 : decide ((wh1 : Int) ≤ 1) = false := by simpa using g2
   have HT : Hid (T = false) := hid (by rw [HF.out]; simp [h2])
   clear HF
   go_enter Tryz.func28,Tryz.ntmps28
   go_upto_region 1 with fail
   go_wp2
   go_ret
   exact ⟨ret_bool HT.out.symm,hw⟩
 ·have g1 : ¬ (va1 : Int) = 1 := by omega
  have q1 : decide ((va1 : Int) = 1) = false := by simpa using g1
  have HT : Hid (T = false) := hid (by rw [HF.out]; simp [h1])
  clear HF
  go_enter Tryz.func28,Tryz.ntmps28
  go_upto_region 1 with fail
  go_wp2
  go_ret
  exact ⟨ret_bool HT.out.symm,hw⟩

end Go.Proofs.YtljmlacnfnmjbaaGreat
