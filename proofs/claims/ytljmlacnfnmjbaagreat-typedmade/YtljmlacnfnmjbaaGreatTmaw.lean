import Derived.Test.YtljmlacnfnmjbaaGreatTmav
import Derived.Test.YtljmlacnfnmjbaaGreatTmat
import Derived.Test.YtljmlacnfnmjbaaGreatTmag
namespace Go.Proofs.YtljmlacnfnmjbaaGreat
open Go.RowKit
set_option linter.unusedVariables false
set_option linter.unusedSimpArgs false

set_option maxRecDepth 100000 in
set_option maxHeartbeats 2000000 in
theorem copyTable_cp (t : Tbl) (hB : TblB t) : Cp eTbl 110 t := by
 intro Q w cs h
 obtain ⟨a,n,c,a',n',c',rfl,hr1,hr2⟩ := h
 obtain ⟨nm,cols,idx⟩ := t
 simp only at hr1 hr2 ⊢
 go_enter Tryz.func110,Tryz.ntmps110
 go_upto_region 1 with fail
 generalize hU : (w.alloc (.cells #[.string nm,.slice a n c,.slice a' n' c'] 58)).alloc (.cells #[.string ⟨#[]⟩,.slice none 0 0,.slice none 0 0] 58) = U
 have b0 : Bk U w.heap.size (.cells #[.string nm,.slice a n c,.slice a' n' c'] 58) := hU ▸ (Bk.new w _).later (bal (Below.refl _ _) _)
 have bx : Bk U (w.heap.size + 1) (.cells #[.string ⟨#[]⟩,.slice none 0 0,.slice none 0 0] 58) := by
  have := Bk.new (w.alloc (.cells #[.string nm,.slice a n c,.slice a' n' c'] 58)) (.cells #[.string ⟨#[]⟩,.slice none 0 0,.slice none 0 0] 58)
  rw [World.size_alloc] at this
  exact hU ▸ this
 have hw : Below w.heap.size w U := hU ▸ bal (bal (Below.refl _ _) _) _
 have hs : U.heap.size = w.heap.size + 2 := by rw [← hU]; simp
 have H1 : Hid (∀ w,_) := hid fun w => clone_any nm hB.1 w
 have H2 : Hid (∀ w1,Below U.heap.size U w1 → Calls Tryz.prog 126 #[.slice a n c,.func (.func 127) #[] #[]] w1 (TeR eCol w1 cols)) := hid fun w1 hb => copiesCol_any (fun x hx => copyCol_cp x (hB.2.1.2 x hx)) hB.2.1.1 (hr1.keep (by decide) fun b _ hl => (Below.trans hw (hb.mono hw.size)).block b hl)
 have H3 : Hid (∀ w1,Below U.heap.size U w1 → Calls Tryz.prog 128 #[.slice a' n' c',.func (.func 125) #[] #[]] w1 (TeR eStr w1 idx)) := hid fun w1 hb => copiesStr_any (fun x hx => hB.2.2.2 x hx) hB.2.2.1 (hr2.keep (by decide) fun b _ hl => (Below.trans hw (hb.mono hw.size)).block b hl)
 have hY : Below U.heap.size U U.drew := (Below.refl _ _).drew
 have c0 := b0.cell 0
 have c1 := b0.cell 1
 have c2 := b0.cell 2
 simp only [List.getElem?_toArray,List.getElem?_cons_zero,List.getElem?_cons_succ] at c0 c1 c2
 replace bx := bx.later hY
 clear hB hr1 hr2 b0
 replace hs : Hid _ := hid hs
 clear hU
 generalize hz : w.heap.size + 1 = z at bx ⊢
 have hzw : w.heap.size < z := by omega
 replace hz : Hid _ := hid hz
 go_wp2
 refine wp_region_held_drew (S := fun w' => w'.cell? ⟨w.heap.size,0,none⟩ = some (.string nm) ∧ w'.cell? ⟨w.heap.size,1,none⟩ = some (.slice a n c) ∧ w'.cell? ⟨w.heap.size,2,none⟩ = some (.slice a' n' c')) (by kernel_rfl) (⟨cell_later hY c0,cell_later hY c1,cell_later hY c2⟩) (fun hHeld => ?_)
 refine wpAnyH_take (i := 0) (v := ?tv15) rfl (by kernel_rfl) (by kernel_rfl) (by kernel_rfl) (fun _ _ _ h => h) (Or.inl ⟨by rfl,?hy15⟩) (by assumption) ?rs15
 case hy15 => (intro w9 hSw; (try dsimp only at hSw); go_simp; (try with_reducible rfl))
 (try simp only [Act.put,List.getElem_toArray,List.getElem_cons_zero,List.getElem_cons_succ,List.setIfInBounds_toArray,List.set_cons_zero,List.set_cons_succ])
 refine wpAnyH_take (i := 1) (v := ?tv16) rfl (by kernel_rfl) (by kernel_rfl) (by kernel_rfl) (fun _ _ _ h => h) (Or.inl ⟨by rfl,?hy16⟩) (by assumption) ?rs16
 case hy16 => (intro w9 hSw; (try dsimp only at hSw); go_simp; (try with_reducible rfl))
 (try simp only [Act.put,List.getElem_toArray,List.getElem_cons_zero,List.getElem_cons_succ,List.setIfInBounds_toArray,List.set_cons_zero,List.set_cons_succ])
 refine wpAnyH_take (i := 3) (v := ?tv17) rfl (by kernel_rfl) (by kernel_rfl) (by kernel_rfl) (fun _ _ _ h => h) (Or.inl ⟨by rfl,?hy17⟩) (by assumption) ?rs17
 case hy17 => (intro w9 hSw; (try dsimp only at hSw); go_simp; (try with_reducible rfl))
 (try simp only [Act.put,List.getElem_toArray,List.getElem_cons_zero,List.getElem_cons_succ,List.setIfInBounds_toArray,List.set_cons_zero,List.set_cons_succ])
 refine wpAnyH_take (i := 4) (v := ?tv18) rfl (by kernel_rfl) (by kernel_rfl) (by kernel_rfl) (fun _ _ _ h => h) (Or.inl ⟨by rfl,?hy18⟩) (by assumption) ?rs18
 case hy18 => (intro w9 hSw; (try dsimp only at hSw); go_simp; (try with_reducible rfl))
 (try simp only [Act.put,List.getElem_toArray,List.getElem_cons_zero,List.getElem_cons_succ,List.setIfInBounds_toArray,List.set_cons_zero,List.set_cons_succ])
 refine wpAnyH_take (i := 6) (v := ?tv19) rfl (by kernel_rfl) (by kernel_rfl) (by kernel_rfl) (fun _ _ _ h => h) (Or.inl ⟨by rfl,?hy19⟩) (by assumption) ?rs19
 case hy19 => (intro w9 hSw; (try dsimp only at hSw); go_simp; (try with_reducible rfl))
 (try simp only [Act.put,List.getElem_toArray,List.getElem_cons_zero,List.getElem_cons_succ,List.setIfInBounds_toArray,List.set_cons_zero,List.set_cons_succ])
 refine wpAnyH_take (i := 7) (v := ?tv20) rfl (by kernel_rfl) (by kernel_rfl) (by kernel_rfl) (fun _ _ _ h => h) (Or.inl ⟨by rfl,?hy20⟩) (by assumption) ?rs20
 case hy20 => (intro w9 hSw; (try dsimp only at hSw); go_simp; (try with_reducible rfl))
 (try simp only [Act.put,List.getElem_toArray,List.getElem_cons_zero,List.getElem_cons_succ,List.setIfInBounds_toArray,List.set_cons_zero,List.set_cons_succ])
 refine wpAnyH_ready (rs := [2]) (by kernel_rfl) (by simp) ?_
 refine AllReadyH.cons rfl (fun K hK => ?_) AllReadyH.nil
 go_simp
 go_wp2_with (first | (go_at_call 125; (refine Calls.mono (H1.out _) ?_); rintro e y ⟨rfl,hby⟩; replace bx := bx.later hby; replace hY := Below.on hY hby))
 refine hK.out _ _ (⟨cell_later hY c0,cell_later hY c1,cell_later hY c2⟩) (fun hHeld => ?_)
 clear hK K
 (try simp only [Act.put,List.getElem_toArray,List.getElem_cons_zero,List.getElem_cons_succ,List.setIfInBounds_toArray,List.set_cons_zero,List.set_cons_succ])
 refine wpAnyH_ready (rs := [5]) (by kernel_rfl) (by simp) ?_
 refine AllReadyH.cons rfl (fun K hK => ?_) AllReadyH.nil
 go_simp
 go_wp2_with (first | (go_at_call 126; (refine Calls.mono (H2.out _ hY) ?_); rintro e y ⟨a1,m1,d1,rfl,r1,hby⟩; replace bx := bx.later hby; replace r1 := r1.mono (by decide) (Q' := fun b => w.heap.size + 2 ≤ b) (fun b hb _ => (by have h1 := hY.size; have h2 := hs.out; have h3 : _ ≤ b := hb; show w.heap.size + 2 ≤ b; omega)); replace hY := Below.on hY hby))
 refine hK.out _ _ (⟨cell_later hY c0,cell_later hY c1,cell_later hY c2⟩) (fun hHeld => ?_)
 clear hK K
 (try simp only [Act.put,List.getElem_toArray,List.getElem_cons_zero,List.getElem_cons_succ,List.setIfInBounds_toArray,List.set_cons_zero,List.set_cons_succ])
 refine wpAnyH_ready (rs := [8]) (by kernel_rfl) (by simp) ?_
 refine AllReadyH.cons rfl (fun K hK => ?_) AllReadyH.nil
 go_simp
 go_wp2_with (first | (go_at_call 128; (refine Calls.mono (H3.out _ hY) ?_); rintro e y ⟨a2,m2,d2,rfl,r2,hby⟩; replace bx := bx.later hby; replace r2 := r2.mono (by decide) (Q' := fun b => w.heap.size + 2 ≤ b) (fun b hb _ => (by have h1 := hY.size; have h2 := hs.out; have h3 : _ ≤ b := hb; show w.heap.size + 2 ≤ b; omega)); replace r1 := r1.keep (by decide) (fun b _ hl => hby.block b hl); replace hY := Below.on hY hby))
 refine hK.out _ _ (⟨cell_later hY c0,cell_later hY c1,cell_later hY c2⟩) (fun hHeld => ?_)
 clear hK K
 (try simp only [Act.put,List.getElem_toArray,List.getElem_cons_zero,List.getElem_cons_succ,List.setIfInBounds_toArray,List.set_cons_zero,List.set_cons_succ])
 refine wpAnyH_take (i := 9) (v := ?tv21) rfl (by kernel_rfl) (by kernel_rfl) (by kernel_rfl) (fun _ _ _ h => h) (Or.inl ⟨by rfl,?hy21⟩) (by assumption) ?rs21
 case hy21 => (intro w9 hSw; (try dsimp only at hSw); go_simp; (try with_reducible rfl))
 (try simp only [Act.put,List.getElem_toArray,List.getElem_cons_zero,List.getElem_cons_succ,List.setIfInBounds_toArray,List.set_cons_zero,List.set_cons_succ])
 refine wpAnyH_ready (rs := [10]) (by kernel_rfl) (by simp) ?_
 refine AllReadyH.cons rfl (fun K hK => ?_) AllReadyH.nil
 have hth : y.there z 0 3 := bx.there rfl
 have z0 := stW_cell (l := [.string nm,.slice a1 m1 d1,.slice a2 m2 d2]) hth (j := 0) rfl
 have z1 := stW_cell (l := [.string nm,.slice a1 m1 d1,.slice a2 m2 d2]) hth (j := 1) rfl
 have z2 := stW_cell (l := [.string nm,.slice a1 m1 d1,.slice a2 m2 d2]) hth (j := 2) rfl
 rw [if_pos (by rfl)]
 refine wp_store_mid _ _ _ rfl z 0 (List.toArray [.string nm,.slice a1 m1 d1,.slice a2 m2 d2]) rfl rfl hth (by kernel_rfl) (by simp [Value.oneCell']) ?_
 show K _ (stW y z [.string nm,.slice a1 m1 d1,.slice a2 m2 d2])
 refine hK.out _ _ (⟨stW_far (by omega) (cell_later hY c0),stW_far (by omega) (cell_later hY c1),stW_far (by omega) (cell_later hY c2)⟩) (fun hHeld => ?_)
 clear hK K hth
 (try simp only [Act.put,List.getElem_toArray,List.getElem_cons_zero,List.getElem_cons_succ,List.setIfInBounds_toArray,List.set_cons_zero,List.set_cons_succ])
 refine wpAnyH_done (by kernel_rfl) ?_ _
 ·
  have hW := Below.trans hw (hY.mono (by have := hw.size; omega))
  clear hY bx
  go_wp2
  refine bodyPost_ret (v := .agg #[.string nm,.slice a1 m1 d1,.slice a2 m2 d2]) (by simp [results,Tryz.results110,go_sem,z0,z1,z2]) rfl ?_
  exact ⟨[.string nm,.slice a1 m1 d1,.slice a2 m2 d2],rfl,⟨_,_,_,_,_,_,rfl,((r1).keep (by decide) fun b hb _ => by have hb' : w.heap.size + 2 ≤ b := hb; have h9 := hz.out; exact stW_heap (by omega)).mono (by decide) fun b hb _ => by have hb' : w.heap.size + 2 ≤ b := hb; show w.heap.size ≤ b; omega,((r2).keep (by decide) fun b hb _ => by have hb' : w.heap.size + 2 ≤ b := hb; have h9 := hz.out; exact stW_heap (by omega)).mono (by decide) fun b hb _ => by have hb' : w.heap.size + 2 ≤ b := hb; show w.heap.size ≤ b; omega⟩,stW_below hW (by omega)⟩

end Go.Proofs.YtljmlacnfnmjbaaGreat
namespace Go.Proofs.YtljmlacnfnmjbaaGreat
open Go.RowKit
set_option linter.unusedVariables false
set_option linter.unusedSimpArgs false

/-- What a looking up tells. -/
def TeT (w : World) (r : Option Tbl) (e : Ending) (w' : World) : Prop :=
 ∃ s a n c a' n' c' is,e = .returned (.tuple #[.agg #[.string s,.slice a n c,.slice a' n' c'],.bool is]) ∧ is = r.isSome ∧ (∀ t,r = some t → s = t.name ∧ RowIs eCol (fun b => w.heap.size ≤ b) w' (.slice a n c) t.cols ∧ RowIs eStr (fun b => w.heap.size ≤ b) w' (.slice a' n' c') t.index) ∧ (r = none → s = ⟨#[]⟩ ∧ a = none ∧ n = 0 ∧ c = 0 ∧ a' = none ∧ n' = 0 ∧ c' = 0) ∧ Below w.heap.size w w'
def lookT (S : List Tbl) (name : ByteArray) : Option Tbl := S.find? fun t => eqS t.name name
theorem lookT_at {S : List Tbl} {name : ByteArray} {i : Nat} (hi : i < S.length) (h : fidx (fun t => eqS t.name name) S = i) : lookT S name = some S[i] := by
 have h2 : S.findIdx (fun t => eqS t.name name) = i := by
  unfold fidx at h
  split at h
  ·omega
  ·omega
 obtain ⟨h3,h4⟩ := (List.findIdx_eq hi).1 h2
 rw [lookT,List.find?_eq_some_iff_getElem]
 exact ⟨h3,i,hi,rfl,fun j hj => by simpa using h4 j hj⟩
theorem lookT_none {S : List Tbl} {name : ByteArray} (h : fidx (fun t => eqS t.name name) S = -1) : lookT S name = none := by
 unfold fidx at h
 split at h
 ·omega
 ·rename_i hn
  rw [lookT,List.find?_eq_none]
  intro x hx hp
  exact hn (List.findIdx_lt_length_of_exists ⟨x,hx,by simpa using hp⟩)
set_option maxRecDepth 100000 in
set_option maxHeartbeats 4000000 in
theorem findTbl_any {S : List Tbl} (hSB : AllB TblB S) (name : ByteArray) {w : World} {ta : Option Addr} {tn tc : Nat} (hS : RowIs eTbl (fun _ => True) w (.slice ta tn tc) S) :
  Calls Tryz.prog 88 #[.agg #[.slice ta tn tc,.func (.func 109) #[] #[],.func (.func 110) #[] #[]],.string name] w (TeT w (lookT S name)) := by
 have hw : Below w.heap.size w ((w.alloc (.cells #[.slice ta tn tc,.func (.func 109) #[] #[],.func (.func 110) #[] #[]] 139)).alloc (.cells #[.string ⟨#[]⟩,.slice none 0 0,.slice none 0 0] 58)) := bal (bal (Below.refl _ _) _) _
 have HP := placeTbl_any hSB.1 name_tbl name (C := 110) (hS.keep (by decide) fun b _ hl => hw.block b hl)
 have HSr : Hid (∀ w',Below w.heap.size w w' → RowIs eTbl (fun _ => True) w' (.slice ta tn tc) S) := hid fun w' hb => hS.keep (by decide) fun b _ hl => hb.block b hl
 have HX0 : Hid (∀ t ∈ S,Cp eTbl 110 t) := hid fun t ht => copyTable_cp t (hSB.2 t ht)
 have l0 := cell_later (bal (Below.refl _ _) (.cells #[.string ⟨#[]⟩,.slice none 0 0,.slice none 0 0] 58)) (cell_new w #[.slice ta tn tc,.func (.func 109) #[] #[],.func (.func 110) #[] #[]] 139 (0,0) 0)
 have l2 := cell_later (bal (Below.refl _ _) (.cells #[.string ⟨#[]⟩,.slice none 0 0,.slice none 0 0] 58)) (cell_new w #[.slice ta tn tc,.func (.func 109) #[] #[],.func (.func 110) #[] #[]] 139 (0,0) 2)
 have bx := Bk.new (w.alloc (.cells #[.slice ta tn tc,.func (.func 109) #[] #[],.func (.func 110) #[] #[]] 139)) (.cells #[.string ⟨#[]⟩,.slice none 0 0,.slice none 0 0] 58)
 rw [World.size_alloc] at bx
 have HV := fidx_vals (fun t => eqS t.name name) S
 have hS5 : S.length ≤ 500 := hSB.1
 have hstn : S.length = tn := by obtain ⟨_,_,_,e,hn,_⟩ := id hS; cases e; exact hn
 clear hS hSB
 have HA : Hid (∀ i (hi : i < S.length),fidx (fun t => eqS t.name name) S = i → lookT S name = some S[i]) := hid fun i hi h => lookT_at hi h
 have HN : Hid (fidx (fun t => eqS t.name name) S = -1 → lookT S name = none) := hid fun h => lookT_none h
 generalize fidx (fun t => eqS t.name name) S = R at *
 generalize lookT S name = L at *
 replace HP : Hid _ := hid HP
 go_enter Tryz.func88,Tryz.ntmps88
 go_wp2_with fail
 refine Calls.mono HP.out ?_
 rintro e U ⟨rfl,hb⟩
 have hwU := Below.trans hw (hb.mono hw.size)
 have hUz : w.heap.size + 1 < U.heap.size := by have := hb.size; simp at this; omega
 replace l0 := cell_later hb l0
 replace l2 := cell_later hb l2
 replace bx := bx.later hb
 generalize hz : w.heap.size + 1 = z at bx hUz ⊢
 have hzw : w.heap.size < z := by omega
 clear HP hb hw
 rcases HV with rfl | ⟨i,rfl,hi⟩
 ·obtain rfl : L = none := HN.out rfl
  have z0 := bx.cell 0
  have z1 := bx.cell 1
  have z2 := bx.cell 2
  have f0 := bx.free 0
  have f1 := bx.free 1
  have f2 := bx.free 2
  simp only [List.getElem?_toArray,List.getElem?_cons_zero,List.getElem?_cons_succ] at z0 z1 z2
  clear HA HN HSr HX0 l0 l2 bx
  go_wp2
  exact bodyPost_ret (v := .tuple #[.agg #[.string ⟨#[]⟩,.slice none 0 0,.slice none 0 0],.bool false]) (by simp [results,Tryz.results88,go_sem,z0,z1,z2]) rfl ⟨_,_,_,_,_,_,_,false,rfl,rfl,(fun t h => by cases h),fun _ => ⟨rfl,rfl,rfl,rfl,rfl,rfl,rfl⟩,((hwU.setCell (by show w.heap.size ≤ z; omega) _).setCell (by show w.heap.size ≤ z; omega) _).setCell (by show w.heap.size ≤ z; omega) _⟩
 ·obtain rfl : L = some S[i] := HA.out i hi rfl
  obtain ⟨_,_,_,e,hl,hnc,hcm,hx⟩ := HSr.out _ hwU
  cases e
  obtain ⟨b,o,rfl,hq,hcell⟩ := hx (by omega)
  obtain ⟨cs,hE,h2,h3⟩ := hcell i hi
  obtain ⟨x,hxl,hxm⟩ : ∃ x,S[i] = x ∧ x ∈ S := ⟨_,rfl,List.getElem_mem hi⟩
  rw [hxl] at hE
  have hE' := hE
  obtain ⟨ea,en,ec,ea',en',ec',rfl,er1,er2⟩ := hE'
  have x0 : U.cell? ⟨b,o + i * 3,none⟩ = some (.string x.name) := h3 0 (show 0 < 3 by decide)
  have x1 : U.cell? ⟨b,o + i * 3 + 1,none⟩ = some (.slice ea en ec) := h3 1 (show 1 < 3 by decide)
  have x2 : U.cell? ⟨b,o + i * 3 + 2,none⟩ = some (.slice ea' en' ec') := h3 2 (show 2 < 3 by decide)
  have hbw : b < w.heap.size := by
   obtain ⟨_,_,_,e,_,_,_,hx0⟩ := HSr.out w (Below.refl _ _)
   cases e
   obtain ⟨b',o',e,_,hc0⟩ := hx0 (by omega)
   cases e
   obtain ⟨cs0,_,hk0,h30⟩ := hc0 i hi
   exact World.block_lt_of_cell? _ _ (h30 0 (by rw [hk0]; decide))
  have HX : Hid (∀ w',Below U.heap.size U w' → _) := hid fun w' hb' => HX0.out x hxm _ w' _ (eTbl.keep (fun b _ hl => hb'.block b hl) hE)
  have hi1 : (i : Int) < (tn : Int) := by omega
  have hi2 : i < tn := by omega
  have hi3 : i ≤ 500 := by omega
  have Hxl : Hid _ := hid hxl
  clear HA HN HSr HX0 hcell hx h2 h3 hE er1 er2 hxm hxl hl hnc hcm
  go_upto_region 4 with fail
  have hY : Below U.heap.size U U.drew := (Below.refl _ _).drew
  replace bx := bx.later hY
  refine wp_region_held_drew (S := fun w' => w'.cell? ⟨w.heap.size,0,none⟩ = some (.slice (some ⟨b,o,none⟩) tn tc) ∧ w'.cell? ⟨w.heap.size,2,none⟩ = some (.func (.func 110) #[] #[]) ∧ w'.cell? ⟨b,o + i * 3,none⟩ = some (.string x.name) ∧ w'.cell? ⟨b,o + i * 3 + 1,none⟩ = some (.slice ea en ec) ∧ w'.cell? ⟨b,o + i * 3 + 2,none⟩ = some (.slice ea' en' ec')) (by kernel_rfl) (⟨cell_later hY l0,cell_later hY l2,cell_later hY x0,cell_later hY x1,cell_later hY x2⟩) (fun hHeld => ?_)
  refine wpAnyH_take (i := 0) (v := ?tv51) rfl (by kernel_rfl) (by kernel_rfl) (by kernel_rfl) (fun _ _ _ h => h) (Or.inl ⟨by rfl,?hy51⟩) (by assumption) ?rs51
  case hy51 => (intro w9 hSw; (try dsimp only at hSw); go_simp; (try with_reducible rfl))
  (try simp only [Act.put,List.getElem_toArray,List.getElem_cons_zero,List.getElem_cons_succ,List.setIfInBounds_toArray,List.set_cons_zero,List.set_cons_succ])
  refine wpAnyH_take (i := 1) (v := ?tv52) rfl (by kernel_rfl) (by kernel_rfl) (by kernel_rfl) (fun _ _ _ h => h) (Or.inl ⟨by rfl,?hy52⟩) (by assumption) ?rs52
  case hy52 => (intro w9 hSw; (try dsimp only at hSw); go_simp; (try with_reducible rfl))
  (try simp only [Act.put,List.getElem_toArray,List.getElem_cons_zero,List.getElem_cons_succ,List.setIfInBounds_toArray,List.set_cons_zero,List.set_cons_succ])
  refine wpAnyH_take (i := 2) (v := ?tv53) rfl (by kernel_rfl) (by kernel_rfl) (by kernel_rfl) (fun _ _ _ h => h) (Or.inl ⟨by rfl,?hy53⟩) (by assumption) ?rs53
  case hy53 => (intro w9 hSw; (try dsimp only at hSw); go_simp; (try with_reducible rfl))
  (try simp only [Act.put,List.getElem_toArray,List.getElem_cons_zero,List.getElem_cons_succ,List.setIfInBounds_toArray,List.set_cons_zero,List.set_cons_succ])
  refine wpAnyH_take (i := 3) (v := ?tv54) rfl (by kernel_rfl) (by kernel_rfl) (by kernel_rfl) (fun _ _ _ h => h) (Or.inl ⟨by rfl,?hy54⟩) (by assumption) ?rs54
  case hy54 => (intro w9 hSw; (try dsimp only at hSw); go_simp; (try with_reducible rfl))
  (try simp only [Act.put,List.getElem_toArray,List.getElem_cons_zero,List.getElem_cons_succ,List.setIfInBounds_toArray,List.set_cons_zero,List.set_cons_succ])
  refine wpAnyH_take (i := 4) (v := ?tv55) rfl (by kernel_rfl) (by kernel_rfl) (by kernel_rfl) (fun _ _ _ h => h) (Or.inl ⟨by rfl,?hy55⟩) (by assumption) ?rs55
  case hy55 => (intro w9 hSw; (try dsimp only at hSw); go_simp; (try with_reducible rfl))
  (try simp only [Act.put,List.getElem_toArray,List.getElem_cons_zero,List.getElem_cons_succ,List.setIfInBounds_toArray,List.set_cons_zero,List.set_cons_succ])
  refine wpAnyH_take (i := 5) (v := ?tv56) rfl (by kernel_rfl) (by kernel_rfl) (by kernel_rfl) (fun _ _ _ h => h) (Or.inl ⟨by rfl,?hy56⟩) (by assumption) ?rs56
  case hy56 => (intro w9 hSw; (try dsimp only at hSw); go_simp; (try with_reducible rfl))
  (try simp only [Act.put,List.getElem_toArray,List.getElem_cons_zero,List.getElem_cons_succ,List.setIfInBounds_toArray,List.set_cons_zero,List.set_cons_succ])
  refine wpAnyH_take (i := 6) (v := ?tv57) rfl (by kernel_rfl) (by kernel_rfl) (by kernel_rfl) (fun _ _ _ h => h) (Or.inl ⟨by rfl,?hy57⟩) (by assumption) ?rs57
  case hy57 => (intro w9 hSw; (try dsimp only at hSw); go_simp; (try with_reducible rfl))
  (try simp only [Act.put,List.getElem_toArray,List.getElem_cons_zero,List.getElem_cons_succ,List.setIfInBounds_toArray,List.set_cons_zero,List.set_cons_succ])
  refine wpAnyH_ready (rs := [7]) (by kernel_rfl) (by simp) ?_
  refine AllReadyH.cons rfl (fun K hK => ?_) AllReadyH.nil
  go_simp
  go_wp2_with (first | ((refine Calls.mono (HX.out _ hY) ?_); rintro e y ⟨cs',rfl,hE4,hby⟩; replace bx := bx.later hby; replace hE4 := eTbl.mono (Q' := fun b => U.heap.size ≤ b) (fun b hb _ => (by have h1 := hY.size; have h3 : _ ≤ b := hb; show U.heap.size ≤ b; omega)) hE4; replace hY := Below.on hY hby))
  obtain ⟨fa,fn,fc,fa',fn',fc',rfl,fr1,fr2⟩ := hE4
  refine hK.out _ _ (⟨cell_later hY l0,cell_later hY l2,cell_later hY x0,cell_later hY x1,cell_later hY x2⟩) (fun hHeld => ?_)
  clear hK K
  (try simp only [Act.put,List.getElem_toArray,List.getElem_cons_zero,List.getElem_cons_succ,List.setIfInBounds_toArray,List.set_cons_zero,List.set_cons_succ])
  refine wpAnyH_ready (rs := [8]) (by kernel_rfl) (by simp) ?_
  refine AllReadyH.cons rfl (fun K hK => ?_) AllReadyH.nil
  have hth : y.there z 0 3 := bx.there rfl
  have z0 := stW_cell (l := [.string x.name,.slice fa fn fc,.slice fa' fn' fc']) hth (j := 0) rfl
  have z1 := stW_cell (l := [.string x.name,.slice fa fn fc,.slice fa' fn' fc']) hth (j := 1) rfl
  have z2 := stW_cell (l := [.string x.name,.slice fa fn fc,.slice fa' fn' fc']) hth (j := 2) rfl
  rw [if_pos (by rfl)]
  refine wp_store_mid _ _ _ rfl z 0 (List.toArray [.string x.name,.slice fa fn fc,.slice fa' fn' fc']) rfl rfl hth (by kernel_rfl) (by simp [Value.oneCell']) ?_
  show K _ (stW y z [.string x.name,.slice fa fn fc,.slice fa' fn' fc'])
  refine hK.out _ _ (⟨stW_far (by omega) (cell_later hY l0),stW_far (by omega) (cell_later hY l2),stW_far (by omega) (cell_later hY x0),stW_far (by omega) (cell_later hY x1),stW_far (by omega) (cell_later hY x2)⟩) (fun hHeld => ?_)
  clear hK K hth
  (try simp only [Act.put,List.getElem_toArray,List.getElem_cons_zero,List.getElem_cons_succ,List.setIfInBounds_toArray,List.set_cons_zero,List.set_cons_succ])
  refine wpAnyH_ready (rs := [9]) (by kernel_rfl) (by simp) ?_
  refine AllReadyH.cons rfl (fun K hK => ?_) AllReadyH.nil
  go_simp
  refine hK.out _ _ (⟨stW_far (by omega) (cell_later hY l0),stW_far (by omega) (cell_later hY l2),stW_far (by omega) (cell_later hY x0),stW_far (by omega) (cell_later hY x1),stW_far (by omega) (cell_later hY x2)⟩) (fun hHeld => ?_)
  clear hK K
  (try simp only [Act.put,List.getElem_toArray,List.getElem_cons_zero,List.getElem_cons_succ,List.setIfInBounds_toArray,List.set_cons_zero,List.set_cons_succ])
  refine wpAnyH_done (by kernel_rfl) ?_ _
  have hW := Below.trans hwU (hY.mono hwU.size)
  have hws := hwU.size
  have q1 : RowIs eCol (fun b => w.heap.size ≤ b) (stW y z [.string x.name,.slice fa fn fc,.slice fa' fn' fc']) (.slice fa fn fc) x.cols := (fr1.keep (by decide) fun b hb _ => by have hb' : U.heap.size ≤ b := hb; exact stW_heap (by omega)).mono (by decide) fun b hb _ => by have hb' : U.heap.size ≤ b := hb; show w.heap.size ≤ b; omega
  have q2 : RowIs eStr (fun b => w.heap.size ≤ b) (stW y z [.string x.name,.slice fa fn fc,.slice fa' fn' fc']) (.slice fa' fn' fc') x.index := (fr2.keep (by decide) fun b hb _ => by have hb' : U.heap.size ≤ b := hb; exact stW_heap (by omega)).mono (by decide) fun b hb _ => by have hb' : U.heap.size ≤ b := hb; show w.heap.size ≤ b; omega
  have hWs : Below w.heap.size w (stW y z [.string x.name,.slice fa fn fc,.slice fa' fn' fc']) := stW_below hW (by omega)
  clear hHeld hY bx fr1 fr2 HX
  go_wp2
  exact bodyPost_ret (v := .tuple #[.agg #[.string x.name,.slice fa fn fc,.slice fa' fn' fc'],.bool true]) (by simp [results,Tryz.results88,go_sem,z0,z1,z2]) rfl ⟨_,_,_,_,_,_,_,true,rfl,rfl,(fun t h => by cases h; rw [Hxl.out]; exact ⟨rfl,q1,q2⟩),(fun h => by cases h),hWs⟩

end Go.Proofs.YtljmlacnfnmjbaaGreat
namespace Go.Proofs.YtljmlacnfnmjbaaGreat
open Go.RowKit
set_option linter.unusedVariables false
set_option linter.unusedSimpArgs false

set_option maxRecDepth 100000 in
set_option maxHeartbeats 1000000 in
theorem table_any {S : List Tbl} (hSB : AllB TblB S) (name : ByteArray) {w : World} {ta : Option Addr} {tn tc : Nat} (hS : RowIs eTbl (fun _ => True) w (.slice ta tn tc) S) (vb : Option Addr) (vm vd : Nat) :
  Calls Tryz.prog 58 #[.agg #[.slice ta tn tc,.slice vb vm vd],.string name] w (TeT w (lookT S name)) := by
 have H1 : Hid (∀ w,_) := hid fun w => tables_any ta tn tc vb vm vd w
 have hw : Below w.heap.size w ((w.alloc (.cells #[.slice ta tn tc,.slice vb vm vd] 38)).alloc (.cells #[.string ⟨#[]⟩,.slice none 0 0,.slice none 0 0] 58)) := bal (bal (Below.refl _ _) _) _
 have H2 : Hid (∀ w',Below w.heap.size w w' → _) := hid fun w' hb => findTbl_any hSB name (hS.keep (by decide) fun b _ hl => hb.block b hl)
 have bx := Bk.new (w.alloc (.cells #[.slice ta tn tc,.slice vb vm vd] 38)) (.cells #[.string ⟨#[]⟩,.slice none 0 0,.slice none 0 0] 58)
 rw [World.size_alloc] at bx
 generalize lookT S name = L at *
 clear hS hSB
 go_enter Tryz.func58,Tryz.ntmps58
 go_wp2_with fail
 refine Calls.mono (H1.out _) ?_
 rintro e U ⟨rfl,hb⟩
 have hwU := Below.trans hw (hb.mono hw.size)
 replace bx := bx.later hb
 generalize hz : w.heap.size + 1 = z at bx ⊢
 have hzw : w.heap.size < z := by omega
 have hzU := bx.lt
 clear H1 hb hw
 go_wp2_with fail
 refine Calls.mono (H2.out _ hwU) ?_
 rintro e U2 ⟨s,a,n,c,a',n',c',is,rfl,his,hso,hno,hb⟩
 have hwU2 := Below.trans hwU (hb.mono hwU.size)
 have hUs := hwU.size
 replace bx := bx.later hb
 have z0 := bx.cell 0
 have z1 := bx.cell 1
 have z2 := bx.cell 2
 have f0 := bx.free 0
 have f1 := bx.free 1
 have f2 := bx.free 2
 simp only [List.getElem?_toArray,List.getElem?_cons_zero,List.getElem?_cons_succ] at z0 z1 z2
 have HS : Hid _ := hid hso
 have HN : Hid _ := hid hno
 have HI : Hid _ := hid his
 clear H2 bx hso hno his
 go_wp2
 refine bodyPost_ret (v := .tuple #[.agg #[.string s,.slice a n c,.slice a' n' c'],.bool is]) (by simp [results,Tryz.results58,go_sem,z0,z1,z2]) rfl ⟨s,a,n,c,a',n',c',is,rfl,HI.out,?_,HN.out,((hwU2.setCell (by show w.heap.size ≤ z; omega) _).setCell (by show w.heap.size ≤ z; omega) _).setCell (by show w.heap.size ≤ z; omega) _⟩
 intro t ht
 obtain ⟨h1,h2,h3⟩ := HS.out t ht
 exact ⟨h1,(h2.keep (by decide) fun b hb _ => by have hb' : U.heap.size ≤ b := hb; exact heapK3 (by omega)).mono (by decide) fun b hb _ => by have hb' : U.heap.size ≤ b := hb; show w.heap.size ≤ b; omega,(h3.keep (by decide) fun b hb _ => by have hb' : U.heap.size ≤ b := hb; exact heapK3 (by omega)).mono (by decide) fun b hb _ => by have hb' : U.heap.size ≤ b := hb; show w.heap.size ≤ b; omega⟩
end Go.Proofs.YtljmlacnfnmjbaaGreat
namespace Go.Proofs.YtljmlacnfnmjbaaGreat
open Go.RowKit
set_option linter.unusedVariables false
set_option linter.unusedSimpArgs false

abbrev clC (c : Cl3) : List Value := [.string c.1,.string c.2.1,.int .i64 c.2.2]
def colsT (t : Tbl) : List Cl3 := t.cols.map fun c => (t.name,c.1,c.2.1)
theorem OwnR.len {ty k B : Nat} {w : World} {a : Option Addr} {m d : Nat} {css : List (List Value)} (h : OwnR ty k B w (.slice a m d) css) : css.length = m ∧ m ≤ d ∧ d ≤ 9223372036854775807 := by
 rcases h.2.2 with ⟨e,h0⟩ | ⟨g,cap,cur,e,_,_,hnc,hc,_⟩
 ·cases e
  exact ⟨h0,Nat.le_refl _,by omega⟩
 ·cases e
  exact ⟨rfl,hnc,by simpa [maxLen] using hc⟩
theorem OwnR.clm {B : Nat} {w : World} {a : Option Addr} {m d : Nat} {l : List Cl3} (h : OwnR 100 3 B w (.slice a m d) (l.map clC)) : RowIs eClm (fun _ => True) w (.slice a m d) l :=
 OwnR.rowE (e := eClm) h (by simp) (fun _ _ _ => trivial) fun i h1 h2 => by
  show _ = _
  simp
theorem one_clm (a b : ByteArray) (k : Int) : ∀ u ∈ ([.string a,.string b,.int .i64 k] : List Value),u.oneCell' = true := by simp [Value.oneCell']
theorem one_clms (l : List Cl3) : ∀ u ∈ (l.map clC).flatten,u.oneCell' = true := by
 intro u hu
 rw [List.mem_flatten] at hu
 obtain ⟨cs,hcs,hu⟩ := hu
 obtain ⟨c,_,rfl⟩ := List.mem_map.1 hcs
 exact one_clm _ _ _ u hu

set_option maxRecDepth 100000 in
set_option maxHeartbeats 4000000 in
theorem columns1_any (tn : ByteArray) (x : Co) {w1 w' : World} {bt : Nat} (hf : w1.cell? ⟨bt,0,none⟩ = some (.string tn)) (hb : Below w1.heap.size w1 w') {a : Option Addr} {m d : Nat} {css : List (List Value)} (ho : OwnR 100 3 w1.heap.size w' (.slice a m d) css) (hl : css.length ≤ 500) :
  Calls Tryz.prog 96 #[.slice a m d,.agg #[.string x.1,.int .i64 x.2.1,.string x.2.2],.pointer (some ⟨bt,0,none⟩)] w' fun en w'' => ∃ a2 m2 d2,en = .returned (.tuple #[.slice a2 m2 d2,.int .i64 0]) ∧ Below w1.heap.size w1 w'' ∧ OwnR 100 3 w1.heap.size w'' (.slice a2 m2 d2) (css ++ [clC (tn,x.1,x.2.1)]) := by
 obtain ⟨x1,x2,x3⟩ := x
 have bx := Bk.new w' (.cells #[.string x1,.int .i64 x2,.string x3] 84)
 have ho1 := ho.alloc (.cells #[.string x1,.int .i64 x2,.string x3] 84)
 have hb1 := bal hb (.cells #[.string x1,.int .i64 x2,.string x3] 84)
 have hf1 := cell_later hb1 hf
 clear ho hb hf
 go_enter Tryz.func96,Tryz.ntmps96
 go_upto_region 1 with fail
 generalize w'.alloc (.cells #[.string x1,.int .i64 x2,.string x3] 84) = W at *
 have d0 := bx.cell 0
 have d1 := bx.cell 1
 simp only [List.getElem?_toArray,List.getElem?_cons_zero,List.getElem?_cons_succ] at d0 d1
 clear bx
 have ho5 := ho1.alloc (.cells #[.string tn,.string x1,.int .i64 x2] 100)
 have hB5 := bal hb1 (.cells #[.string tn,.string x1,.int .i64 x2] 100)
 have hblk := ho1.blk
 clear ho1 hb1
 go_wp2_with (first | (at_builtin; go_must (refine wpList_appR Tryz.underlying70 Tryz.infoTClm rfl (by decide) (by decide) rfl (.tmp 7) (.tmp 15) rfl _ css W.heap.size [.string tn,.string x1,.int .i64 x2] rfl rfl ho5 rfl (one_clm _ _ _) (new3 W _ _ _ _) (by omega) hB5.size ?_)) | fail)
 intro v' w6 hO6 hg6 hown
 have hB6 := below_grows hB5 hB5.size hg6 fun k e => (hblk k e).1
 obtain ⟨a2,m2,d2,rfl⟩ := hO6.sl
 clear hg6 hown ho5 hB5 hblk
 go_wp2
 exact bodyPost_ret (v := .tuple #[.slice a2 m2 d2,.int .i64 0]) (by simp [results,Tryz.results96]) rfl ⟨a2,m2,d2,rfl,hB6,hO6⟩
set_option maxRecDepth 100000 in
set_option maxHeartbeats 4000000 in
theorem columns_any10 (t : Tbl) (hl : t.cols.length ≤ 500) {Q : Nat → Prop} {w : World} {a : Option Addr} {n c : Nat} (h : RowIs eCol Q w (.slice a n c) t.cols) (a2 : Option Addr) (n2 c2 : Nat) :
  Calls Tryz.prog 68 #[.agg #[.string t.name,.slice a n c,.slice a2 n2 c2]] w fun en w' => ∃ a3 n3 c3,en = .returned (.slice a3 n3 c3) ∧ Below w.heap.size w w' ∧ OwnR 100 3 w.heap.size w' (.slice a3 n3 c3) ((colsT t).map clC) := by
 obtain ⟨tn,l,ix⟩ := t
 dsimp only at *
 have hw := bal (Below.refl w.heap.size w) (.cells #[.string tn,.slice a n c,.slice a2 n2 c2] 58)
 have bx := Bk.new w (.cells #[.string tn,.slice a n c,.slice a2 n2 c2] 58)
 generalize hW : w.alloc (.cells #[.string tn,.slice a n c,.slice a2 n2 c2] 58) = W at hw bx
 have hr1 : RowIs eCol Q W (.slice a n c) l := h.keep (by decide) fun b _ hl => hw.block b hl
 have d0 := bx.cell 0
 have d1 := bx.cell 1
 simp only [List.getElem?_toArray,List.getElem?_cons_zero,List.getElem?_cons_succ] at d0 d1
 have hcf : ∀ args w',(callFunc 96 args).run Tryz.prog w' = .ok (.enter 96 args) w' := fun args w' => by rfl
 have HC := foldCoSc hl hr1 (caps := #[.pointer (some ⟨w.heap.size,0,none⟩)]) hcf (fun _ => 0) (fun i w' a m d => Below W.heap.size W w' ∧ OwnR 100 3 W.heap.size w' (.slice a m d) ((l.take i).map fun (x : Co) => clC (tn,x.1,x.2.1)))
  (fun i w' a m d hI => hI.1) (fun i w' a m d o hI => ⟨bal hI.1 o,hI.2.alloc o⟩) (a0 := none) (m0 := 0) (d0 := 0) ⟨Below.refl _ _,OwnR.nil _ _ _ _⟩
  (fun i hi w' a m d cs hI hx => by
   have hx' : cs = [.string l[i].1,.int .i64 l[i].2.1,.string l[i].2.2] := hx
   subst hx'
   refine Calls.mono (columns1_any tn l[i] d0 hI.1 hI.2 (by rw [List.length_map,List.length_take]; omega)) ?_
   rintro en w'' ⟨a2,m2,d2,rfl,hb2,ho2⟩
   refine ⟨a2,m2,d2,rfl,hb2,fun _ => ⟨hb2,?_⟩⟩
   rw [List.take_succ_eq_append_getElem hi,List.map_append]; exact ho2)
 have hz : erO (fun _ => 0) l.length = 0 := by
  unfold erO
  induction l.length with
  | zero => rfl
  | succ n ih => rw [List.range_succ,List.map_append,erL_app,ih]; rfl
 rw [hz] at HC
 replace HC : Hid _ := hid HC
 have hcT : ((colsT ⟨tn,l,ix⟩).map clC) = l.map fun x => clC (tn,x.1,x.2.1) := by unfold colsT; rw [List.map_map]; rfl
 rw [hcT]
 clear hr1 hcf h hz d0 bx hcT
 go_enter Tryz.func68,Tryz.ntmps68
 go_upto_region 1 with fail
 go_wp2_with fail
 refine Calls.mono HC.out ?_
 rintro e w4 ⟨a4,m4,d4,rfl,hb4,hI⟩
 have HI : Hid _ := hid (hI (by first | rfl | trivial))
 clear HC hI
 go_wp2
 refine bodyPost_ret (v := .slice a4 m4 d4) (by simp [results,Tryz.results68]) rfl ⟨a4,m4,d4,rfl,Below.on hw hb4,?_⟩
 have ho := HI.out.2
 rw [List.take_length] at ho
 exact OwnR.base ho hw.size
set_option maxRecDepth 100000 in
set_option maxHeartbeats 4000000 in
theorem paired1_any (x : It) {K : List Int} {w1 w' : World} {bt : Nat} {ka : Option Addr} {kn kc : Nat} (hK : RowIs eInt (fun _ => True) w1 (.slice ka kn kc) K) (hf : w1.cell? ⟨bt,0,none⟩ = some (.slice ka kn kc)) (hb : Below w1.heap.size w1 w') {a : Option Addr} {m d : Nat} {css : List (List Value)} (ho : OwnR 100 3 w1.heap.size w' (.slice a m d) css) (hl : css.length ≤ 500) (hk : css.length < K.length) :
  Calls Tryz.prog 50 #[.slice a m d,.agg #[.int .i64 x.1,.string x.2.1,.string x.2.2],.pointer (some ⟨bt,0,none⟩)] w' fun en w'' => ∃ a2 m2 d2,en = .returned (.tuple #[.slice a2 m2 d2,.int .i64 0]) ∧ Below w1.heap.size w1 w'' ∧ OwnR 100 3 w1.heap.size w'' (.slice a2 m2 d2) (css ++ [clC (x.2.1,x.2.2,K[css.length])]) := by
 obtain ⟨x1,x2,x3⟩ := x
 have bx := Bk.new w' (.cells #[.int .i64 x1,.string x2,.string x3] 66)
 have ho1 := ho.alloc (.cells #[.int .i64 x1,.string x2,.string x3] 66)
 have hb1 := bal hb (.cells #[.int .i64 x1,.string x2,.string x3] 66)
 have hf1 := cell_later hb1 hf
 obtain ⟨hKn,hKc,hKm,hKx⟩ := row_int hK
 subst hKn
 obtain ⟨kb,ko,rfl,-,hki⟩ := hKx (by omega)
 have k0' := hki css.length hk
 have k0 := cell_later hb1 k0'
 generalize K[css.length] = kk at *
 have hm := ho.len
 obtain ⟨rfl,hmd,hdm⟩ := hm
 have ho' := ho
 clear ho hb hK hki hKx
 go_enter Tryz.func50,Tryz.ntmps50
 go_upto_region 1 with fail
 generalize w'.alloc (.cells #[.int .i64 x1,.string x2,.string x3] 66) = W at *
 have d1 := bx.cell 1
 have d2 := bx.cell 2
 simp only [List.getElem?_toArray,List.getElem?_cons_zero,List.getElem?_cons_succ] at d1 d2
 clear bx
 have ho5 : OwnR 100 3 w1.heap.size (W.drew.alloc (.cells #[.string x2,.string x3,.int .i64 kk] 100)) _ css := OwnR.alloc (w := W.drew) ho1 (.cells #[.string x2,.string x3,.int .i64 kk] 100)
 have hB5 := bal hb1.drew (.cells #[.string x2,.string x3,.int .i64 kk] 100)
 have hblk := ho1.blk
 have g1 : (css.length : Int) < (K.length : Int) := by omega
 have hWs : w'.heap.size < W.heap.size := World.block_lt_of_cell? _ _ d1
 have hbt : bt < w1.heap.size := World.block_lt_of_cell? _ _ hf
 have hkb : kb < w1.heap.size := World.block_lt_of_cell? _ _ k0'
 have hsz := hb1.size
 have hob := ho'.blk
 have nq : some w'.heap.size ≠ (Value.slice a css.length d).ownBlock := fun e => Nat.lt_irrefl _ (hob _ e.symm).2
 have HKg : Hid (∀ w2 : World,(∀ b,b < W.heap.size → some b ≠ (Value.slice a css.length d).ownBlock → w2.heap[b]? = W.heap[b]?) → w2.cell? ⟨bt,0,none⟩ = some (.slice (some ⟨kb,ko,none⟩) K.length kc) ∧ w2.cell? ⟨w'.heap.size,1,none⟩ = some (.string x2) ∧ w2.cell? ⟨w'.heap.size,2,none⟩ = some (.string x3) ∧ w2.cell? ⟨kb,ko + css.length,none⟩ = some (.int .i64 kk)) := hid fun w2 h2 =>
  ⟨(World.cell?_of_block (a := ⟨bt,_,none⟩) (h2 bt (by omega) fun e => by have := (hob bt e.symm).1; omega)).trans hf1,(World.cell?_of_block (a := ⟨w'.heap.size,_,none⟩) (h2 _ hWs nq)).trans d1,(World.cell?_of_block (a := ⟨w'.heap.size,_,none⟩) (h2 _ hWs nq)).trans d2,(World.cell?_of_block (a := ⟨kb,_,none⟩) (h2 kb (by omega) fun e => by have := (hob kb e.symm).1; omega)).trans k0⟩
 replace hob : Hid _ := hid hob
 generalize w'.heap.size = q at *
 clear ho1 hb1 hf1 d1 d2 k0 hf k0' ho' nq
 go_wp2
 go_region_held3 (fun w2 => w2.cell? ⟨bt,0,none⟩ = some (.slice (some ⟨kb,ko,none⟩) K.length kc) ∧ w2.cell? ⟨q,1,none⟩ = some (.string x2) ∧ w2.cell? ⟨q,2,none⟩ = some (.string x3) ∧ w2.cell? ⟨kb,ko + css.length,none⟩ = some (.int .i64 kk))
  (first | exact HKg.out _ (fun b hb hne => rfl) | exact HKg.out _ (fun b hb hne => (bal (Below.refl _ W.drew) _).block b hb) | exact HKg.out _ (fun b hb hne => (hg6.block b (by simp; omega) hne).trans ((bal (Below.refl _ W.drew) _).block b hb)))
  ((first | (refine step_guard (.tmp 7) (.tmp 18) 70 ?_ ?_; (exact rfl); refine step_appR (B := w1.heap.size) (by rfl) (.tmp 7) (.tmp 18) (by rfl) Tryz.underlying70 Tryz.infoTClm rfl (by decide) (by decide) _ css W.heap.size [.string x2,.string x3,.int .i64 kk] (by rfl) (by rfl) ho5 rfl (one_clm _ _ _) (new3 W.drew _ _ _ _) (by omega) hB5.size ?_; intro v' w6 hO6 hg6 hown; have hB6 := below_grows hB5 hB5.size hg6 fun k e => (hblk k e).1)))
 all_goals
  obtain ⟨a2,m2,d2,rfl⟩ := hO6.sl
  go_wp2
  exact bodyPost_ret (v := .tuple #[.slice a2 m2 d2,.int .i64 0]) (by simp [results,Tryz.results50]) rfl ⟨a2,m2,d2,rfl,hB6,hO6⟩

end Go.Proofs.YtljmlacnfnmjbaaGreat
