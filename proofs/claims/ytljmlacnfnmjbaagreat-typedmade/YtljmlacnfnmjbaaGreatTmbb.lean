import Derived.Test.YtljmlacnfnmjbaaGreatTmba
namespace Go.Proofs.YtljmlacnfnmjbaaGreat
open Go.RowKit
set_option linter.unusedVariables false
set_option linter.unusedSimpArgs false

/-- What the document's Kind tells of an expression. -/
def RKindC (C : List It) (K : List Int) (x : Pg × Tg) : Prop := ∀ (Q : Nat → Prop) (w : World) (cs : List Value) (a : Option Addr) (n c : Nat) (ka : Option Addr) (kn kc : Nat),RowIs eItem Q w (.slice a n c) C → RowIs eInt Q w (.slice ka kn kc) K → eG.E Q w x cs → Calls Tryz.prog 12 #[.slice a n c,.slice ka kn kc,.agg cs.toArray] w fun en w' => en = .returned (.tuple #[.int .i64 (kdT (pairP C K) x).1,.int .i64 (kdT (pairP C K) x).2]) ∧ Below w.heap.size w w'
theorem takes_all (T : Int) : ∀ L : List Int,takesP [T] L = L.all fun k => k == T := by
 intro L
 unfold takesP alikeP
 rw [Bool.eq_iff_iff]
 simp only [Bool.and_eq_true,List.all_eq_true,beq_iff_eq,List.contains_cons,List.contains_nil,Bool.or_false]
 refine ⟨fun h x hx => h.2 x hx,fun h => ⟨fun x hx => ?_,fun x hx => h x hx⟩⟩
 cases L with
 | nil => simp at hx
 | cons y r => rw [h x hx,show (y :: r).headD 0 = y from rfl,h y (by simp)]
theorem takes_two (L : List Int) (hL : L ≠ []) : takesP [1,2] L = ((L.headD 0 == 1 || L.headD 0 == 2) && L.all fun k => k == L.headD 0) := by
 unfold takesP alikeP
 rw [Bool.eq_iff_iff]
 simp only [Bool.and_eq_true,List.all_eq_true,beq_iff_eq,List.contains_cons,List.contains_nil,Bool.or_false,Bool.or_eq_true]
 cases L with
 | nil => exact absurd rfl hL
 | cons y r =>
  show (∀ x ∈ y :: r,x = y) ∧ (∀ x ∈ y :: r,x = 1 ∨ x = 2) ↔ (y = 1 ∨ y = 2) ∧ ∀ x ∈ y :: r,x = y
  exact ⟨fun h => ⟨h.2 y (by simp),h.1⟩,fun h => ⟨h.2,fun x hx => by rw [h.2 x hx]; exact h.1⟩⟩
theorem all_at {L : List Int} {T : Int} {i : Nat} (hi : i < L.length) (h : L[i] ≠ T) : (L.all fun k => k == T) = false := by
 rw [List.all_eq_false]
 exact ⟨L[i],List.getElem_mem hi,by simpa using h⟩
theorem all_of {L : List Int} {T : Int} (h : ∀ j (hj : j < L.length),L[j] = T) : (L.all fun k => k == T) = true := by
 rw [List.all_eq_true]
 intro x hx
 obtain ⟨j,hj,rfl⟩ := List.mem_iff_getElem.1 hx
 simpa using h j hj

set_option maxRecDepth 100000 in
set_option maxHeartbeats 4000000 in
theorem rkind_step {C : List It} {K : List Int} (hC : C.length ≤ 500) (hK5 : K.length ≤ 500) (x : Pg × Tg) (ih : ∀ y ∈ toL x.2,RKindC C K y) : RKindC C K x := by
 intro Q w cs a n c ka kn kc hR hK hx
 have hEx' := hx
 obtain ⟨ea,en,ec,rfl,hsl⟩ := hEx'
 have hlen := hsl.1
 have hec := hsl.2.1
 have hecm := hsl.2.2.1
 obtain ⟨kl1,kl2,kl3⟩ := hK.lens
 simp only [exC] at *
 have hw := bal (Below.refl w.heap.size w) (.cells #[.int .i64 x.1.1,.int .i64 x.1.2.1,.int .i64 x.1.2.2.1,.string x.1.2.2.2.1,.string x.1.2.2.2.2.1,.string x.1.2.2.2.2.2,.slice ea en ec] 28)
 have bx := Bk.new w (.cells #[.int .i64 x.1.1,.int .i64 x.1.2.1,.int .i64 x.1.2.2.1,.string x.1.2.2.2.1,.string x.1.2.2.2.2.1,.string x.1.2.2.2.2.2,.slice ea en ec] 28)
 generalize hW : w.alloc (.cells #[.int .i64 x.1.1,.int .i64 x.1.2.1,.int .i64 x.1.2.2.1,.string x.1.2.2.2.1,.string x.1.2.2.2.2.1,.string x.1.2.2.2.2.2,.slice ea en ec] 28) = W at hw bx
 have d0 := bx.cell 0
 have d1 := bx.cell 1
 have d2 := bx.cell 2
 have d3 := bx.cell 3
 have d4 := bx.cell 4
 have d5 := bx.cell 5
 have d6 := bx.cell 6
 simp only [List.getElem?_toArray,List.getElem?_cons_zero,List.getElem?_cons_succ] at d0 d1 d2 d3 d4 d5 d6
 have HCr : Hid (∀ w',Below W.heap.size W w' → RowIs eItem Q w' (.slice a n c) C) := hid fun w' hb => hR.keep (by decide) fun b _ hl => (Below.on hw hb).block b hl
 have HKr : Hid (∀ w',Below W.heap.size W w' → RowIs eInt Q w' (.slice ka kn kc) K) := hid fun w' hb => hK.keep (by decide) fun b _ hl => (Below.on hw hb).block b hl
 have HAr : Hid (∀ w',Below W.heap.size W w' → RowIs eG Q w' (.slice ea en ec) (toL x.2)) := hid fun w' hb => hsl.row.keep (by decide) fun b _ hl => (Below.on hw hb).block b hl
 have HIH : Hid _ := hid ih
 have HAt : Hid (∀ w',Below W.heap.size W w' → _) := hid fun w' hb => at_any hC kn (by omega) x (HCr.out w' hb) ea en ec
 have H1 : Hid (wayA x.1.1 = none → kdT (pairP C K) x = (0,1)) := hid kdT_none
 have H2 : Hid (∀ v,wayA x.1.1 = some v → ((toL x.2).length : Int) ≠ v.1 → kdT (pairP C K) x = (0,1)) := hid fun v => kdT_len
 have H3 : Hid (∀ v,wayA x.1.1 = some v → ((toL x.2).length : Int) = v.1 → x.1.1 = 1 → kdT (pairP C K) x = (x.1.2.1,0)) := hid fun v => kdT_lit
 have H4 : Hid (∀ v,wayA x.1.1 = some v → ((toL x.2).length : Int) = v.1 → x.1.1 ≠ 1 → x.1.1 = 2 → kdT (pairP C K) x = clmK (pairP C K) x.1.2.2.2.2.1 x.1.2.2.2.2.2) := hid fun v => kdT_col
 have H5 : Hid (∀ v,wayA x.1.1 = some v → ((toL x.2).length : Int) = v.1 → x.1.1 ≠ 1 → x.1.1 ≠ 2 → erL ((toL x.2).map fun x => (kdT (pairP C K) x).2) ≠ 0 → kdT (pairP C K) x = (0,erL ((toL x.2).map fun x => (kdT (pairP C K) x).2))) := hid fun v => kdT_err
 have H6 : Hid (∀ v,wayA x.1.1 = some v → ((toL x.2).length : Int) = v.1 → x.1.1 ≠ 1 → x.1.1 ≠ 2 → erL ((toL x.2).map fun x => (kdT (pairP C K) x).2) = 0 → kdT (pairP C K) x = if takesP v.2.1 ((toL x.2).map fun x => (kdT (pairP C K) x).1) then (v.2.2,0) else (0,11)) := hid fun v => kdT_ok
 clear hx hsl hR ih bx
 obtain ⟨R,hRR⟩ : ∃ R,kdT (pairP C K) x = R := ⟨_,rfl⟩
 rw [hRR] at H1 H2 H3 H4 H5 H6 ⊢
 clear hRR
 obtain ⟨⟨op,k1,k2,k3,k4,k5⟩,f⟩ := x
 dsimp only at *
 by_cases h1 : op = 1
 ·subst h1
  by_cases hn : en = 0
  ·obtain rfl : R = (k1,0) := H3.out _ rfl (by rw [hlen,hn]; rfl) rfl
   subst hn
   clear H1 H2 H3 H4 H5 H6 HIH HAt HAr HCr HKr
   go_enter Tryz.func12,Tryz.ntmps12
   go_upto_region 1 with fail
   go_wp2
   exact bodyPost_ret (v := .tuple #[.int .i64 k1,.int .i64 0]) (by simp [results,Tryz.results12]) rfl ⟨rfl,hw⟩
  ·obtain rfl : R = (0,1) := H2.out _ rfl (by rw [hlen]; show (en : Int) ≠ 0; omega)
   have gn : ¬ (en : Int) = 0 := by omega
   have gd : decide ((en : Int) = 0) = false := by simpa using gn
   have gb : ((en : Int) != 0) = true := by simpa using gn
   clear H1 H2 H3 H4 H5 H6 HIH HAt HAr HCr HKr
   go_enter Tryz.func12,Tryz.ntmps12
   go_upto_region 1 with fail
   go_wp2
   exact bodyPost_ret (v := .tuple #[.int .i64 0,.int .i64 1]) (by simp [results,Tryz.results12]) rfl ⟨rfl,hw⟩
 have g1 : decide (op = 1) = false := by simpa using h1
 have gb1 : (op == 1) = false := by simpa using h1
 by_cases h2 : op = 2
 ·subst h2
  by_cases hn : en = 0
  ·have hR4 := H4.out _ rfl (by rw [hlen,hn]; rfl) h1 rfl
   subst hn
   have HAt2 : Hid _ := hid (HAt.out W (Below.refl _ _))
   have hR4' : Hid _ := hid hR4
   clear H1 H2 H3 H4 H5 H6 HIH HAt HAr HCr hR4
   go_enter Tryz.func12,Tryz.ntmps12
   go_upto_region 1 with fail
   go_wp2_with fail
   refine Calls.mono HAt2.out ?_
   rintro e w3 ⟨r,er,rfl,hat,hb3⟩
   rcases hat K kl1 with ⟨qq,hq,rfl,rfl,hc⟩ | ⟨rfl,rfl,hc⟩
   ·obtain ⟨_,_,_,kx⟩ := row_int (HKr.out w3 hb3)
    obtain ⟨b,o,rfl,-,hi⟩ := kx (by omega)
    have c0 := hi qq hq
    rw [hc] at hR4'
    generalize K[qq] = kq at *
    obtain rfl := hR4'.out
    have gq : (qq : Int) < (kn : Int) := by omega
    have gq5 : qq < 500 := by omega
    clear HAt2 hi kx hc HKr hat
    go_wp2
    exact bodyPost_ret (v := .tuple #[.int .i64 kq,.int .i64 0]) (by simp [results,Tryz.results12]) rfl ⟨rfl,Below.on hw hb3⟩
   ·rw [hc] at hR4'
    obtain rfl := hR4'.out
    clear HAt2 hc HKr hat
    go_wp2
    exact bodyPost_ret (v := .tuple #[.int .i64 0,.int .i64 10]) (by simp [results,Tryz.results12]) rfl ⟨rfl,Below.on hw hb3⟩
  ·obtain rfl : R = (0,1) := H2.out _ rfl (by rw [hlen]; show (en : Int) ≠ 0; omega)
   have gn : ¬ (en : Int) = 0 := by omega
   have gd : decide ((en : Int) = 0) = false := by simpa using gn
   have gb : ((en : Int) != 0) = true := by simpa using gn
   clear H1 H2 H3 H4 H5 H6 HIH HAt HAr HCr HKr
   go_enter Tryz.func12,Tryz.ntmps12
   go_upto_region 1 with fail
   go_wp2
   exact bodyPost_ret (v := .tuple #[.int .i64 0,.int .i64 1]) (by simp [results,Tryz.results12]) rfl ⟨rfl,hw⟩
 have g2 : decide (op = 2) = false := by simpa using h2
 have gb2 : (op == 2) = false := by simpa using h2
 by_cases hnone : op < 1 ∨ 15 < op
 ·obtain rfl : R = (0,1) := H1.out (by unfold wayA; repeat rw [if_neg (by omega)])
  have e3 : decide (op = 3) = false := by simp; omega
  have e4 : decide (op = 4) = false := by simp; omega
  have n3 : ¬ op = 3 := by omega
  have n4 : ¬ op = 4 := by omega
  have n3b : (op == 3) = false := by simpa using n3
  have n4b : (op == 4) = false := by simpa using n4
  clear H1 H2 H3 H4 H5 H6 HIH HAt HAr HCr HKr
  rcases hnone with hlo | hhi
  ·go_enter Tryz.func12,Tryz.ntmps12
   go_upto_region 1 with fail
   go_wp2
   all_goals exact bodyPost_ret (v := .tuple #[.int .i64 0,.int .i64 1]) (by simp [results,Tryz.results12]) rfl ⟨rfl,hw⟩
  ·have nl : ¬ op < 1 := by omega
   have nd : decide (op < 1) = false := by simpa using nl
   go_enter Tryz.func12,Tryz.ntmps12
   go_upto_region 1 with fail
   go_wp2
   all_goals exact bodyPost_ret (v := .tuple #[.int .i64 0,.int .i64 1]) (by simp [results,Tryz.results12]) rfl ⟨rfl,hw⟩
 have hlo : ¬ op < 1 := by omega
 have hlod : decide (op < 1) = false := by simpa using hlo
 have hhi : ¬ 15 < op := by omega
 have hhid : decide (15 < op) = false := by simpa using hhi
 by_cases hc : op = 3
 ·have hwy : wayA op = some (1,[1],1) := by rw [hc]; rfl
  subst hc
  by_cases hn : en = 1
  ·have HH5 := H5.out _ hwy (by rw [hlen,hn]; rfl) h1 h2
   have HH6 := H6.out _ hwy (by rw [hlen,hn]; rfl) h1 h2
   dsimp only at HH6
   clear H1 H2 H3 H4 H5 H6 HAt hwy
   have hLf : (toL f).length = 1 := by rw [hlen,hn]
   obtain ⟨L,hL⟩ : ∃ L,(toL f).map (fun x => (kdT (pairP C K) x).1) = L := ⟨_,rfl⟩
   obtain ⟨E,hE⟩ : ∃ E,(toL f).map (fun x => (kdT (pairP C K) x).2) = E := ⟨_,rfl⟩
   rw [hE] at HH5 HH6
   rw [hL] at HH6
   have hLl : L.length = 1 := by rw [← hL,List.length_map,hLf]
   have hEl : E.length = 1 := by rw [← hE,List.length_map,hLf]
   have HEO := erO_list (l := E) (er := fun i => (E[i]?).getD 0) fun i hi => by rw [List.getElem?_eq_getElem hi]; rfl
   rw [hEl] at HEO
   rw [← HEO] at HH5 HH6
   have HY : Hid (∀ i (hi : i < (toL f).length) (hiL : i < L.length),(kdT (pairP C K) (toL f)[i]).1 = L[i] ∧ (kdT (pairP C K) (toL f)[i]).2 = (E[i]?).getD 0) := hid fun i hi hiL => ⟨by subst hL; simp,by subst hE; rw [List.getElem?_eq_getElem (by simpa using hi)]; simp⟩
   replace HH5 : Hid _ := hid HH5
   replace HH6 : Hid _ := hid HH6
   subst hn
   clear hL hE HEO
   go_enter Tryz.func12,Tryz.ntmps12
   go_upto_region 1 with fail
   go_wp2
   clear hW
   generalize w.heap.size = q at d0 d1 d2 d3 d4 d5 d6 ⊢
   go_loopw [11,12] (fun v11 v12 wr => ∃ (k : Nat) (la : Option Addr) (lm ld : Nat),k ≤ 1 ∧ v12 = .int .i64 k ∧ v11 = .slice la lm ld ∧ OwnR 3 1 W.heap.size wr (.slice la lm ld) ((L.take k).map fun z => [.int .i64 z]) ∧ Hid (erO (fun i => (E[i]?).getD 0) k = 0) ∧ Below W.heap.size W wr) (fun _ i _ => 1 - (intOf i).toNat)
   case atStart => exact ⟨0,none,0,0,Nat.zero_le _,rfl,rfl,OwnR.nil _ _ _ _,hid rfl,Below.refl _ _⟩
   case round =>
    obtain ⟨k,la,lm,ld,hk,rfl,rfl,ho,HE,hB⟩ := hrel
    have z0 := cell_later hB d0
    have z6 := cell_later hB d6
    by_cases hlt : k < 1
    ·obtain ⟨_,_,_,e',_,_,_,hx⟩ := HAr.out wr hB
     cases e'
     obtain ⟨b,o,rfl,-,hxi⟩ := hx (by decide)
     obtain ⟨cs,hEl2,-,hcc⟩ := hxi k (by omega)
     obtain ⟨hY1,hY2⟩ := HY.out k (by omega) (by omega)
     have hIH := HIH.out _ (List.getElem_mem (l := toL f) (n := k) (by omega)) Q wr cs a n c ka kn kc (HCr.out wr hB) (HKr.out wr hB) hEl2
     rw [hY1,hY2] at hIH
     obtain ⟨y,hy⟩ : ∃ y,(toL f)[k]'(by omega) = y := ⟨_,rfl⟩
     rw [hy] at hEl2
     obtain ⟨ya,yn,yc,rfl,-⟩ := hEl2
     simp only [exC] at hcc hIH
     have hLk : L.take (k + 1) = L.take k ++ [L[k]'(by omega)] := List.take_succ_eq_append_getElem (by omega)
     have HLk : Hid _ := hid hLk
     obtain ⟨lk,hlk⟩ : ∃ lk,L[k]'(by omega) = lk := ⟨_,rfl⟩
     rw [hlk] at hIH HLk
     obtain ⟨ek,hek⟩ : ∃ ek,(E[k]?).getD 0 = ek := ⟨_,rfl⟩
     rw [hek] at hIH
     have HEk : Hid _ := hid hek
     replace hIH : Hid _ := hid hIH
     have e0 : wr.cell? ⟨b,o + k * 7,none⟩ = some (.int .i64 y.1.1) := hcc 0 (show 0 < 7 by decide)
     have e1 : wr.cell? ⟨b,o + k * 7 + 1,none⟩ = some (.int .i64 y.1.2.1) := hcc 1 (show 1 < 7 by decide)
     have e2 : wr.cell? ⟨b,o + k * 7 + 2,none⟩ = some (.int .i64 y.1.2.2.1) := hcc 2 (show 2 < 7 by decide)
     have e3 : wr.cell? ⟨b,o + k * 7 + 3,none⟩ = some (.string y.1.2.2.2.1) := hcc 3 (show 3 < 7 by decide)
     have e4 : wr.cell? ⟨b,o + k * 7 + 4,none⟩ = some (.string y.1.2.2.2.2.1) := hcc 4 (show 4 < 7 by decide)
     have e5 : wr.cell? ⟨b,o + k * 7 + 5,none⟩ = some (.string y.1.2.2.2.2.2) := hcc 5 (show 5 < 7 by decide)
     have e6 : wr.cell? ⟨b,o + k * 7 + 6,none⟩ = some (.slice ya yn yc) := hcc 6 (show 6 < 7 by decide)
     have hkm : (k : Int) < 1 := by omega
     clear hcc hxi hx hLk hlk hek hY1 hY2 hy
     go_wp2_with fail
     refine Calls.mono hIH.out ?_
     rintro e w4 ⟨rfl,hb4⟩
     have ho4 := ho.later hb4
     have hB4 := Below.on hB hb4
     clear hIH ho hb4 e0 e1 e2 e3 e4 e5 e6
     by_cases he0 : ek = 0
     ·subst he0
      have HE2 : Hid (erO (fun i => (E[i]?).getD 0) (k + 1) = 0) := hid (by rw [erO_succ,if_pos HE.out]; exact HEk.out)
      have ho5 := ho4.alloc (.cells #[.int .i64 lk] 3)
      have hB5 := bal hB4 (.cells #[.int .i64 lk] 3)
      have hblk := ho4.blk
      have hl5 : ((L.take k).map fun z => [Value.int .i64 z]).length ≤ 1000 := by rw [List.length_map,List.length_take]; omega
      clear ho4 hB4 HEk HE
      go_wp2_with (first | (at_builtin; go_must (refine wpList_appR Tryz.underlying23 Tryz.infoTInt2 rfl (by decide) (by decide) rfl (.tmp 96) (.tmp 98) rfl _ ((L.take k).map fun z => [.int .i64 z]) w4.heap.size [.int .i64 lk] rfl rfl ho5 rfl (by simp [Value.oneCell']) (newK1 w4 _ _) hl5 hB5.size ?_)) | fail)
      intro v' w6 hO6 hg6 hown
      have hB6 := below_grows hB5 hB5.size hg6 fun k e => (hblk k e).1
      obtain ⟨a2,m2,d2x,rfl⟩ := hO6.sl
      have hO7 : OwnR 3 1 W.heap.size w6 (.slice a2 m2 d2x) ((L.take (k + 1)).map fun z => [.int .i64 z]) := by rw [HLk.out,List.map_append,List.map_take]; exact hO6
      clear hO6 hg6 hown ho5 hB5 hblk hl5 z0 z6
      go_wp2
      go_roundw
      case rel => exact ⟨k + 1,a2,m2,d2x,by omega,by go_num,rfl,hO7,HE2,hB6⟩
      case measure => simp only [intOf]; omega
     ·have hst : erO (fun i => (E[i]?).getD 0) 1 = ek := (erO_stop (k := k) (n := 1) hlt HE.out (by show (E[k]?).getD 0 ≠ 0; rw [HEk.out]; exact he0)).trans HEk.out
      have hR5 := HH5.out (by rw [hst]; exact he0)
      rw [hst] at hR5
      subst hR5
      have q0 : decide (ek = 0) = false := by simpa using he0
      have q1 : (ek != 0) = true := by simpa using he0
      clear HH5 HH6 HE HEk
      go_wp2
      exact bodyPost_ret (v := .tuple #[.int .i64 0,.int .i64 ek]) (by simp [results,Tryz.results12]) rfl ⟨rfl,Below.on hw hB4⟩
    ·obtain rfl : k = 1 := by omega
     have hR6 := HH6.out HE.out
     rw [show L.take 1 = L from List.take_of_length_le (by omega)] at ho
     have hrow : RowIs eInt (fun _ => True) wr (.slice la lm ld) L := OwnR.rowE (e := eInt) ho (by simp) (fun _ _ _ => trivial) fun i h1 h2 => by show _ = _; simp
     obtain ⟨rl1,rl2,rl3,rl4⟩ := row_int hrow
     subst rl1
     have HLr : Hid _ := hid rl4
     clear HH5 HH6 HE ho hrow rl4 HY HIH HAr HCr HKr
     have HF2 : Hid (R = if (L.all fun k => k == 1) = true then (1,0) else (0,11)) := hid (by rw [hR6,takes_all])
     clear hR6
     go_wp2
     clear z0 z6
     generalize wr = w5 at *
     go_loopw [17] (fun v17 wr => ∃ i2 : Nat,i2 ≤ L.length ∧ v17 = .int .i64 i2 ∧ Below w5.heap.size w5 wr ∧ Hid (∀ j (hj : j < L.length),j < i2 → L[j] = 1)) (fun i _ => L.length - (intOf i).toNat)
     case atStart => exact ⟨0,Nat.zero_le _,rfl,Below.refl _ _,hid fun j hj hji => absurd hji (by omega)⟩
     case round =>
      obtain ⟨i2,hi2,rfl,hB2,HE2⟩ := hrel
      by_cases hlt2 : i2 < L.length
      ·obtain ⟨lbx,lox,hla,-,hlc⟩ := HLr.out (by omega)
       cases hla
       have c9 := cell_later hB2 (hlc i2 hlt2)
       have him2 : (i2 : Int) < (L.length : Int) := by omega
       have HA9 : Hid (L[i2] ≠ 1 → R = (0,11)) := hid fun hne => by rw [HF2.out,all_at hlt2 hne]; rfl
       have HB9 : Hid (L[i2] = 1 → ∀ j (hj : j < L.length),j < i2 + 1 → L[j] = 1) := hid fun he j hj hji => by
        by_cases e9 : j = i2
        ·subst e9; exact he
        ·exact HE2.out j hj (by omega)
       generalize L[i2] = l9 at *
       clear hlc HE2
       by_cases h9 : l9 = 1
       ·subst h9
        go_wp2
        go_roundw
        case rel => exact ⟨i2 + 1,hlt2,by go_num,hB2,hid (HB9.out (by first | rfl | trivial))⟩
        case measure => simp only [intOf]; omega
       ·obtain rfl : R = (0,11) := HA9.out h9
        have q9 : decide (l9 = 1) = false := by simpa using h9
        have q8 : (l9 != 1) = true := by simpa using h9
        go_wp2
        exact bodyPost_ret (v := .tuple #[.int .i64 0,.int .i64 11]) (by simp [results,Tryz.results12]) rfl ⟨rfl,Below.on hw (Below.on hB hB2)⟩
      ·obtain rfl : i2 = L.length := by omega
       obtain rfl : R = (1,0) := by rw [HF2.out,all_of fun j hj => HE2.out j hj hj]; rfl
       clear HE2
       go_wp2
       exact bodyPost_ret (v := .tuple #[.int .i64 1,.int .i64 0]) (by simp [results,Tryz.results12]) rfl ⟨rfl,Below.on hw (Below.on hB hB2)⟩
  ·obtain rfl : R = (0,1) := H2.out _ hwy (by rw [hlen]; show (en : Int) ≠ 1; omega)
   have gn : ¬ (en : Int) = 1 := by omega
   have gd : decide ((en : Int) = 1) = false := by simpa using gn
   have gb : ((en : Int) != 1) = true := by simpa using gn
   clear H1 H2 H3 H4 H5 H6 HIH HAt HAr HCr HKr hwy
   go_enter Tryz.func12,Tryz.ntmps12
   go_upto_region 1 with fail
   go_wp2
   all_goals exact bodyPost_ret (v := .tuple #[.int .i64 0,.int .i64 1]) (by simp [results,Tryz.results12]) rfl ⟨rfl,hw⟩
 have n3 : ¬ op = 3 := hc
 have n3d : decide (op = 3) = false := by simpa using n3
 have n3b : (op == 3) = false := by simpa using n3
 clear hc
 by_cases hc : op = 4
 ·have hwy : wayA op = some (1,[3],3) := by rw [hc]; rfl
  subst hc
  by_cases hn : en = 1
  ·have HH5 := H5.out _ hwy (by rw [hlen,hn]; rfl) h1 h2
   have HH6 := H6.out _ hwy (by rw [hlen,hn]; rfl) h1 h2
   dsimp only at HH6
   clear H1 H2 H3 H4 H5 H6 HAt hwy
   have hLf : (toL f).length = 1 := by rw [hlen,hn]
   obtain ⟨L,hL⟩ : ∃ L,(toL f).map (fun x => (kdT (pairP C K) x).1) = L := ⟨_,rfl⟩
   obtain ⟨E,hE⟩ : ∃ E,(toL f).map (fun x => (kdT (pairP C K) x).2) = E := ⟨_,rfl⟩
   rw [hE] at HH5 HH6
   rw [hL] at HH6
   have hLl : L.length = 1 := by rw [← hL,List.length_map,hLf]
   have hEl : E.length = 1 := by rw [← hE,List.length_map,hLf]
   have HEO := erO_list (l := E) (er := fun i => (E[i]?).getD 0) fun i hi => by rw [List.getElem?_eq_getElem hi]; rfl
   rw [hEl] at HEO
   rw [← HEO] at HH5 HH6
   have HY : Hid (∀ i (hi : i < (toL f).length) (hiL : i < L.length),(kdT (pairP C K) (toL f)[i]).1 = L[i] ∧ (kdT (pairP C K) (toL f)[i]).2 = (E[i]?).getD 0) := hid fun i hi hiL => ⟨by subst hL; simp,by subst hE; rw [List.getElem?_eq_getElem (by simpa using hi)]; simp⟩
   replace HH5 : Hid _ := hid HH5
   replace HH6 : Hid _ := hid HH6
   subst hn
   clear hL hE HEO
   go_enter Tryz.func12,Tryz.ntmps12
   go_upto_region 1 with fail
   go_wp2
   clear hW
   generalize w.heap.size = q at d0 d1 d2 d3 d4 d5 d6 ⊢
   go_loopw [11,12] (fun v11 v12 wr => ∃ (k : Nat) (la : Option Addr) (lm ld : Nat),k ≤ 1 ∧ v12 = .int .i64 k ∧ v11 = .slice la lm ld ∧ OwnR 3 1 W.heap.size wr (.slice la lm ld) ((L.take k).map fun z => [.int .i64 z]) ∧ Hid (erO (fun i => (E[i]?).getD 0) k = 0) ∧ Below W.heap.size W wr) (fun _ i _ => 1 - (intOf i).toNat)
   case atStart => exact ⟨0,none,0,0,Nat.zero_le _,rfl,rfl,OwnR.nil _ _ _ _,hid rfl,Below.refl _ _⟩
   case round =>
    obtain ⟨k,la,lm,ld,hk,rfl,rfl,ho,HE,hB⟩ := hrel
    have z0 := cell_later hB d0
    have z6 := cell_later hB d6
    by_cases hlt : k < 1
    ·obtain ⟨_,_,_,e',_,_,_,hx⟩ := HAr.out wr hB
     cases e'
     obtain ⟨b,o,rfl,-,hxi⟩ := hx (by decide)
     obtain ⟨cs,hEl2,-,hcc⟩ := hxi k (by omega)
     obtain ⟨hY1,hY2⟩ := HY.out k (by omega) (by omega)
     have hIH := HIH.out _ (List.getElem_mem (l := toL f) (n := k) (by omega)) Q wr cs a n c ka kn kc (HCr.out wr hB) (HKr.out wr hB) hEl2
     rw [hY1,hY2] at hIH
     obtain ⟨y,hy⟩ : ∃ y,(toL f)[k]'(by omega) = y := ⟨_,rfl⟩
     rw [hy] at hEl2
     obtain ⟨ya,yn,yc,rfl,-⟩ := hEl2
     simp only [exC] at hcc hIH
     have hLk : L.take (k + 1) = L.take k ++ [L[k]'(by omega)] := List.take_succ_eq_append_getElem (by omega)
     have HLk : Hid _ := hid hLk
     obtain ⟨lk,hlk⟩ : ∃ lk,L[k]'(by omega) = lk := ⟨_,rfl⟩
     rw [hlk] at hIH HLk
     obtain ⟨ek,hek⟩ : ∃ ek,(E[k]?).getD 0 = ek := ⟨_,rfl⟩
     rw [hek] at hIH
     have HEk : Hid _ := hid hek
     replace hIH : Hid _ := hid hIH
     have e0 : wr.cell? ⟨b,o + k * 7,none⟩ = some (.int .i64 y.1.1) := hcc 0 (show 0 < 7 by decide)
     have e1 : wr.cell? ⟨b,o + k * 7 + 1,none⟩ = some (.int .i64 y.1.2.1) := hcc 1 (show 1 < 7 by decide)
     have e2 : wr.cell? ⟨b,o + k * 7 + 2,none⟩ = some (.int .i64 y.1.2.2.1) := hcc 2 (show 2 < 7 by decide)
     have e3 : wr.cell? ⟨b,o + k * 7 + 3,none⟩ = some (.string y.1.2.2.2.1) := hcc 3 (show 3 < 7 by decide)
     have e4 : wr.cell? ⟨b,o + k * 7 + 4,none⟩ = some (.string y.1.2.2.2.2.1) := hcc 4 (show 4 < 7 by decide)
     have e5 : wr.cell? ⟨b,o + k * 7 + 5,none⟩ = some (.string y.1.2.2.2.2.2) := hcc 5 (show 5 < 7 by decide)
     have e6 : wr.cell? ⟨b,o + k * 7 + 6,none⟩ = some (.slice ya yn yc) := hcc 6 (show 6 < 7 by decide)
     have hkm : (k : Int) < 1 := by omega
     clear hcc hxi hx hLk hlk hek hY1 hY2 hy
     go_wp2_with fail
     refine Calls.mono hIH.out ?_
     rintro e w4 ⟨rfl,hb4⟩
     have ho4 := ho.later hb4
     have hB4 := Below.on hB hb4
     clear hIH ho hb4 e0 e1 e2 e3 e4 e5 e6
     by_cases he0 : ek = 0
     ·subst he0
      have HE2 : Hid (erO (fun i => (E[i]?).getD 0) (k + 1) = 0) := hid (by rw [erO_succ,if_pos HE.out]; exact HEk.out)
      have ho5 := ho4.alloc (.cells #[.int .i64 lk] 3)
      have hB5 := bal hB4 (.cells #[.int .i64 lk] 3)
      have hblk := ho4.blk
      have hl5 : ((L.take k).map fun z => [Value.int .i64 z]).length ≤ 1000 := by rw [List.length_map,List.length_take]; omega
      clear ho4 hB4 HEk HE
      go_wp2_with (first | (at_builtin; go_must (refine wpList_appR Tryz.underlying23 Tryz.infoTInt2 rfl (by decide) (by decide) rfl (.tmp 96) (.tmp 98) rfl _ ((L.take k).map fun z => [.int .i64 z]) w4.heap.size [.int .i64 lk] rfl rfl ho5 rfl (by simp [Value.oneCell']) (newK1 w4 _ _) hl5 hB5.size ?_)) | fail)
      intro v' w6 hO6 hg6 hown
      have hB6 := below_grows hB5 hB5.size hg6 fun k e => (hblk k e).1
      obtain ⟨a2,m2,d2x,rfl⟩ := hO6.sl
      have hO7 : OwnR 3 1 W.heap.size w6 (.slice a2 m2 d2x) ((L.take (k + 1)).map fun z => [.int .i64 z]) := by rw [HLk.out,List.map_append,List.map_take]; exact hO6
      clear hO6 hg6 hown ho5 hB5 hblk hl5 z0 z6
      go_wp2
      go_roundw
      case rel => exact ⟨k + 1,a2,m2,d2x,by omega,by go_num,rfl,hO7,HE2,hB6⟩
      case measure => simp only [intOf]; omega
     ·have hst : erO (fun i => (E[i]?).getD 0) 1 = ek := (erO_stop (k := k) (n := 1) hlt HE.out (by show (E[k]?).getD 0 ≠ 0; rw [HEk.out]; exact he0)).trans HEk.out
      have hR5 := HH5.out (by rw [hst]; exact he0)
      rw [hst] at hR5
      subst hR5
      have q0 : decide (ek = 0) = false := by simpa using he0
      have q1 : (ek != 0) = true := by simpa using he0
      clear HH5 HH6 HE HEk
      go_wp2
      exact bodyPost_ret (v := .tuple #[.int .i64 0,.int .i64 ek]) (by simp [results,Tryz.results12]) rfl ⟨rfl,Below.on hw hB4⟩
    ·obtain rfl : k = 1 := by omega
     have hR6 := HH6.out HE.out
     rw [show L.take 1 = L from List.take_of_length_le (by omega)] at ho
     have hrow : RowIs eInt (fun _ => True) wr (.slice la lm ld) L := OwnR.rowE (e := eInt) ho (by simp) (fun _ _ _ => trivial) fun i h1 h2 => by show _ = _; simp
     obtain ⟨rl1,rl2,rl3,rl4⟩ := row_int hrow
     subst rl1
     have HLr : Hid _ := hid rl4
     clear HH5 HH6 HE ho hrow rl4 HY HIH HAr HCr HKr
     have HF2 : Hid (R = if (L.all fun k => k == 3) = true then (3,0) else (0,11)) := hid (by rw [hR6,takes_all])
     clear hR6
     go_wp2
     clear z0 z6
     generalize wr = w5 at *
     go_loopw [17] (fun v17 wr => ∃ i2 : Nat,i2 ≤ L.length ∧ v17 = .int .i64 i2 ∧ Below w5.heap.size w5 wr ∧ Hid (∀ j (hj : j < L.length),j < i2 → L[j] = 3)) (fun i _ => L.length - (intOf i).toNat)
     case atStart => exact ⟨0,Nat.zero_le _,rfl,Below.refl _ _,hid fun j hj hji => absurd hji (by omega)⟩
     case round =>
      obtain ⟨i2,hi2,rfl,hB2,HE2⟩ := hrel
      by_cases hlt2 : i2 < L.length
      ·obtain ⟨lbx,lox,hla,-,hlc⟩ := HLr.out (by omega)
       cases hla
       have c9 := cell_later hB2 (hlc i2 hlt2)
       have him2 : (i2 : Int) < (L.length : Int) := by omega
       have HA9 : Hid (L[i2] ≠ 3 → R = (0,11)) := hid fun hne => by rw [HF2.out,all_at hlt2 hne]; rfl
       have HB9 : Hid (L[i2] = 3 → ∀ j (hj : j < L.length),j < i2 + 1 → L[j] = 3) := hid fun he j hj hji => by
        by_cases e9 : j = i2
        ·subst e9; exact he
        ·exact HE2.out j hj (by omega)
       generalize L[i2] = l9 at *
       clear hlc HE2
       by_cases h9 : l9 = 3
       ·subst h9
        go_wp2
        go_roundw
        case rel => exact ⟨i2 + 1,hlt2,by go_num,hB2,hid (HB9.out (by first | rfl | trivial))⟩
        case measure => simp only [intOf]; omega
       ·obtain rfl : R = (0,11) := HA9.out h9
        have q9 : decide (l9 = 3) = false := by simpa using h9
        have q8 : (l9 != 3) = true := by simpa using h9
        go_wp2
        exact bodyPost_ret (v := .tuple #[.int .i64 0,.int .i64 11]) (by simp [results,Tryz.results12]) rfl ⟨rfl,Below.on hw (Below.on hB hB2)⟩
      ·obtain rfl : i2 = L.length := by omega
       obtain rfl : R = (3,0) := by rw [HF2.out,all_of fun j hj => HE2.out j hj hj]; rfl
       clear HE2
       go_wp2
       exact bodyPost_ret (v := .tuple #[.int .i64 3,.int .i64 0]) (by simp [results,Tryz.results12]) rfl ⟨rfl,Below.on hw (Below.on hB hB2)⟩
  ·obtain rfl : R = (0,1) := H2.out _ hwy (by rw [hlen]; show (en : Int) ≠ 1; omega)
   have gn : ¬ (en : Int) = 1 := by omega
   have gd : decide ((en : Int) = 1) = false := by simpa using gn
   have gb : ((en : Int) != 1) = true := by simpa using gn
   clear H1 H2 H3 H4 H5 H6 HIH HAt HAr HCr HKr hwy
   go_enter Tryz.func12,Tryz.ntmps12
   go_upto_region 1 with fail
   go_wp2
   all_goals exact bodyPost_ret (v := .tuple #[.int .i64 0,.int .i64 1]) (by simp [results,Tryz.results12]) rfl ⟨rfl,hw⟩
 have n4 : ¬ op = 4 := hc
 have n4d : decide (op = 4) = false := by simpa using n4
 have n4b : (op == 4) = false := by simpa using n4
 clear hc
 by_cases hc : op < 8
 ·have hwy : wayA op = some (2,[1],1) := by (obtain rfl | rfl | rfl : op = 5 ∨ op = 6 ∨ op = 7 := by omega) <;> rfl
  have n14 : ¬ 14 ≤ op := by omega
  have n14d : decide (14 ≤ op) = false := by simpa using n14
  have n8 : ¬ 8 ≤ op := by omega
  have n8d : decide (8 ≤ op) = false := by simpa using n8
  by_cases hn : en = 2
  ·have HH5 := H5.out _ hwy (by rw [hlen,hn]; rfl) h1 h2
   have HH6 := H6.out _ hwy (by rw [hlen,hn]; rfl) h1 h2
   dsimp only at HH6
   clear H1 H2 H3 H4 H5 H6 HAt hwy
   have hLf : (toL f).length = 2 := by rw [hlen,hn]
   obtain ⟨L,hL⟩ : ∃ L,(toL f).map (fun x => (kdT (pairP C K) x).1) = L := ⟨_,rfl⟩
   obtain ⟨E,hE⟩ : ∃ E,(toL f).map (fun x => (kdT (pairP C K) x).2) = E := ⟨_,rfl⟩
   rw [hE] at HH5 HH6
   rw [hL] at HH6
   have hLl : L.length = 2 := by rw [← hL,List.length_map,hLf]
   have hEl : E.length = 2 := by rw [← hE,List.length_map,hLf]
   have HEO := erO_list (l := E) (er := fun i => (E[i]?).getD 0) fun i hi => by rw [List.getElem?_eq_getElem hi]; rfl
   rw [hEl] at HEO
   rw [← HEO] at HH5 HH6
   have HY : Hid (∀ i (hi : i < (toL f).length) (hiL : i < L.length),(kdT (pairP C K) (toL f)[i]).1 = L[i] ∧ (kdT (pairP C K) (toL f)[i]).2 = (E[i]?).getD 0) := hid fun i hi hiL => ⟨by subst hL; simp,by subst hE; rw [List.getElem?_eq_getElem (by simpa using hi)]; simp⟩
   replace HH5 : Hid _ := hid HH5
   replace HH6 : Hid _ := hid HH6
   subst hn
   clear hL hE HEO
   go_enter Tryz.func12,Tryz.ntmps12
   go_upto_region 1 with fail
   go_wp2
   clear hW
   generalize w.heap.size = q at d0 d1 d2 d3 d4 d5 d6 ⊢
   go_loopw [11,12] (fun v11 v12 wr => ∃ (k : Nat) (la : Option Addr) (lm ld : Nat),k ≤ 2 ∧ v12 = .int .i64 k ∧ v11 = .slice la lm ld ∧ OwnR 3 1 W.heap.size wr (.slice la lm ld) ((L.take k).map fun z => [.int .i64 z]) ∧ Hid (erO (fun i => (E[i]?).getD 0) k = 0) ∧ Below W.heap.size W wr) (fun _ i _ => 2 - (intOf i).toNat)
   case atStart => exact ⟨0,none,0,0,Nat.zero_le _,rfl,rfl,OwnR.nil _ _ _ _,hid rfl,Below.refl _ _⟩
   case round =>
    obtain ⟨k,la,lm,ld,hk,rfl,rfl,ho,HE,hB⟩ := hrel
    have z0 := cell_later hB d0
    have z6 := cell_later hB d6
    by_cases hlt : k < 2
    ·obtain ⟨_,_,_,e',_,_,_,hx⟩ := HAr.out wr hB
     cases e'
     obtain ⟨b,o,rfl,-,hxi⟩ := hx (by decide)
     obtain ⟨cs,hEl2,-,hcc⟩ := hxi k (by omega)
     obtain ⟨hY1,hY2⟩ := HY.out k (by omega) (by omega)
     have hIH := HIH.out _ (List.getElem_mem (l := toL f) (n := k) (by omega)) Q wr cs a n c ka kn kc (HCr.out wr hB) (HKr.out wr hB) hEl2
     rw [hY1,hY2] at hIH
     obtain ⟨y,hy⟩ : ∃ y,(toL f)[k]'(by omega) = y := ⟨_,rfl⟩
     rw [hy] at hEl2
     obtain ⟨ya,yn,yc,rfl,-⟩ := hEl2
     simp only [exC] at hcc hIH
     have hLk : L.take (k + 1) = L.take k ++ [L[k]'(by omega)] := List.take_succ_eq_append_getElem (by omega)
     have HLk : Hid _ := hid hLk
     obtain ⟨lk,hlk⟩ : ∃ lk,L[k]'(by omega) = lk := ⟨_,rfl⟩
     rw [hlk] at hIH HLk
     obtain ⟨ek,hek⟩ : ∃ ek,(E[k]?).getD 0 = ek := ⟨_,rfl⟩
     rw [hek] at hIH
     have HEk : Hid _ := hid hek
     replace hIH : Hid _ := hid hIH
     have e0 : wr.cell? ⟨b,o + k * 7,none⟩ = some (.int .i64 y.1.1) := hcc 0 (show 0 < 7 by decide)
     have e1 : wr.cell? ⟨b,o + k * 7 + 1,none⟩ = some (.int .i64 y.1.2.1) := hcc 1 (show 1 < 7 by decide)
     have e2 : wr.cell? ⟨b,o + k * 7 + 2,none⟩ = some (.int .i64 y.1.2.2.1) := hcc 2 (show 2 < 7 by decide)
     have e3 : wr.cell? ⟨b,o + k * 7 + 3,none⟩ = some (.string y.1.2.2.2.1) := hcc 3 (show 3 < 7 by decide)
     have e4 : wr.cell? ⟨b,o + k * 7 + 4,none⟩ = some (.string y.1.2.2.2.2.1) := hcc 4 (show 4 < 7 by decide)
     have e5 : wr.cell? ⟨b,o + k * 7 + 5,none⟩ = some (.string y.1.2.2.2.2.2) := hcc 5 (show 5 < 7 by decide)
     have e6 : wr.cell? ⟨b,o + k * 7 + 6,none⟩ = some (.slice ya yn yc) := hcc 6 (show 6 < 7 by decide)
     have hkm : (k : Int) < 2 := by omega
     clear hcc hxi hx hLk hlk hek hY1 hY2 hy
     go_wp2_with fail
     refine Calls.mono hIH.out ?_
     rintro e w4 ⟨rfl,hb4⟩
     have ho4 := ho.later hb4
     have hB4 := Below.on hB hb4
     clear hIH ho hb4 e0 e1 e2 e3 e4 e5 e6
     by_cases he0 : ek = 0
     ·subst he0
      have HE2 : Hid (erO (fun i => (E[i]?).getD 0) (k + 1) = 0) := hid (by rw [erO_succ,if_pos HE.out]; exact HEk.out)
      have ho5 := ho4.alloc (.cells #[.int .i64 lk] 3)
      have hB5 := bal hB4 (.cells #[.int .i64 lk] 3)
      have hblk := ho4.blk
      have hl5 : ((L.take k).map fun z => [Value.int .i64 z]).length ≤ 1000 := by rw [List.length_map,List.length_take]; omega
      clear ho4 hB4 HEk HE
      go_wp2_with (first | (at_builtin; go_must (refine wpList_appR Tryz.underlying23 Tryz.infoTInt2 rfl (by decide) (by decide) rfl (.tmp 96) (.tmp 98) rfl _ ((L.take k).map fun z => [.int .i64 z]) w4.heap.size [.int .i64 lk] rfl rfl ho5 rfl (by simp [Value.oneCell']) (newK1 w4 _ _) hl5 hB5.size ?_)) | fail)
      intro v' w6 hO6 hg6 hown
      have hB6 := below_grows hB5 hB5.size hg6 fun k e => (hblk k e).1
      obtain ⟨a2,m2,d2x,rfl⟩ := hO6.sl
      have hO7 : OwnR 3 1 W.heap.size w6 (.slice a2 m2 d2x) ((L.take (k + 1)).map fun z => [.int .i64 z]) := by rw [HLk.out,List.map_append,List.map_take]; exact hO6
      clear hO6 hg6 hown ho5 hB5 hblk hl5 z0 z6
      go_wp2
      go_roundw
      case rel => exact ⟨k + 1,a2,m2,d2x,by omega,by go_num,rfl,hO7,HE2,hB6⟩
      case measure => simp only [intOf]; omega
     ·have hst : erO (fun i => (E[i]?).getD 0) 2 = ek := (erO_stop (k := k) (n := 2) hlt HE.out (by show (E[k]?).getD 0 ≠ 0; rw [HEk.out]; exact he0)).trans HEk.out
      have hR5 := HH5.out (by rw [hst]; exact he0)
      rw [hst] at hR5
      subst hR5
      have q0 : decide (ek = 0) = false := by simpa using he0
      have q1 : (ek != 0) = true := by simpa using he0
      clear HH5 HH6 HE HEk
      go_wp2
      exact bodyPost_ret (v := .tuple #[.int .i64 0,.int .i64 ek]) (by simp [results,Tryz.results12]) rfl ⟨rfl,Below.on hw hB4⟩
    ·obtain rfl : k = 2 := by omega
     have hR6 := HH6.out HE.out
     rw [show L.take 2 = L from List.take_of_length_le (by omega)] at ho
     have hrow : RowIs eInt (fun _ => True) wr (.slice la lm ld) L := OwnR.rowE (e := eInt) ho (by simp) (fun _ _ _ => trivial) fun i h1 h2 => by show _ = _; simp
     obtain ⟨rl1,rl2,rl3,rl4⟩ := row_int hrow
     subst rl1
     have HLr : Hid _ := hid rl4
     clear HH5 HH6 HE ho hrow rl4 HY HIH HAr HCr HKr
     have HF2 : Hid (R = if (L.all fun k => k == 1) = true then (1,0) else (0,11)) := hid (by rw [hR6,takes_all])
     clear hR6
     go_wp2
     clear z0 z6
     generalize wr = w5 at *
     go_loopw [17] (fun v17 wr => ∃ i2 : Nat,i2 ≤ L.length ∧ v17 = .int .i64 i2 ∧ Below w5.heap.size w5 wr ∧ Hid (∀ j (hj : j < L.length),j < i2 → L[j] = 1)) (fun i _ => L.length - (intOf i).toNat)
     case atStart => exact ⟨0,Nat.zero_le _,rfl,Below.refl _ _,hid fun j hj hji => absurd hji (by omega)⟩
     case round =>
      obtain ⟨i2,hi2,rfl,hB2,HE2⟩ := hrel
      by_cases hlt2 : i2 < L.length
      ·obtain ⟨lbx,lox,hla,-,hlc⟩ := HLr.out (by omega)
       cases hla
       have c9 := cell_later hB2 (hlc i2 hlt2)
       have him2 : (i2 : Int) < (L.length : Int) := by omega
       have HA9 : Hid (L[i2] ≠ 1 → R = (0,11)) := hid fun hne => by rw [HF2.out,all_at hlt2 hne]; rfl
       have HB9 : Hid (L[i2] = 1 → ∀ j (hj : j < L.length),j < i2 + 1 → L[j] = 1) := hid fun he j hj hji => by
        by_cases e9 : j = i2
        ·subst e9; exact he
        ·exact HE2.out j hj (by omega)
       generalize L[i2] = l9 at *
       clear hlc HE2
       by_cases h9 : l9 = 1
       ·subst h9
        go_wp2
        go_roundw
        case rel => exact ⟨i2 + 1,hlt2,by go_num,hB2,hid (HB9.out (by first | rfl | trivial))⟩
        case measure => simp only [intOf]; omega
       ·obtain rfl : R = (0,11) := HA9.out h9
        have q9 : decide (l9 = 1) = false := by simpa using h9
        have q8 : (l9 != 1) = true := by simpa using h9
        go_wp2
        exact bodyPost_ret (v := .tuple #[.int .i64 0,.int .i64 11]) (by simp [results,Tryz.results12]) rfl ⟨rfl,Below.on hw (Below.on hB hB2)⟩
      ·obtain rfl : i2 = L.length := by omega
       obtain rfl : R = (1,0) := by rw [HF2.out,all_of fun j hj => HE2.out j hj hj]; rfl
       clear HE2
       go_wp2
       exact bodyPost_ret (v := .tuple #[.int .i64 1,.int .i64 0]) (by simp [results,Tryz.results12]) rfl ⟨rfl,Below.on hw (Below.on hB hB2)⟩
  ·obtain rfl : R = (0,1) := H2.out _ hwy (by rw [hlen]; show (en : Int) ≠ 2; omega)
   have gn : ¬ (en : Int) = 2 := by omega
   have gd : decide ((en : Int) = 2) = false := by simpa using gn
   have gb : ((en : Int) != 2) = true := by simpa using gn
   clear H1 H2 H3 H4 H5 H6 HIH HAt HAr HCr HKr hwy
   go_enter Tryz.func12,Tryz.ntmps12
   go_upto_region 1 with fail
   go_wp2
   all_goals exact bodyPost_ret (v := .tuple #[.int .i64 0,.int .i64 1]) (by simp [results,Tryz.results12]) rfl ⟨rfl,hw⟩
 have n8 : 8 ≤ op := by omega
 have n8d : decide (8 ≤ op) = true := by simpa using n8
 clear hc
 by_cases hc : op < 14
 ·have hwy : wayA op = some (2,[1,2],3) := by (obtain rfl | rfl | rfl | rfl | rfl | rfl : op = 8 ∨ op = 9 ∨ op = 10 ∨ op = 11 ∨ op = 12 ∨ op = 13 := by omega) <;> rfl
  have n14 : ¬ 14 ≤ op := by omega
  have n14d : decide (14 ≤ op) = false := by simpa using n14
  by_cases hn : en = 2
  ·have HH5 := H5.out _ hwy (by rw [hlen,hn]; rfl) h1 h2
   have HH6 := H6.out _ hwy (by rw [hlen,hn]; rfl) h1 h2
   dsimp only at HH6
   clear H1 H2 H3 H4 H5 H6 HAt hwy
   have hLf : (toL f).length = 2 := by rw [hlen,hn]
   obtain ⟨L,hL⟩ : ∃ L,(toL f).map (fun x => (kdT (pairP C K) x).1) = L := ⟨_,rfl⟩
   obtain ⟨E,hE⟩ : ∃ E,(toL f).map (fun x => (kdT (pairP C K) x).2) = E := ⟨_,rfl⟩
   rw [hE] at HH5 HH6
   rw [hL] at HH6
   have hLl : L.length = 2 := by rw [← hL,List.length_map,hLf]
   have hEl : E.length = 2 := by rw [← hE,List.length_map,hLf]
   have HEO := erO_list (l := E) (er := fun i => (E[i]?).getD 0) fun i hi => by rw [List.getElem?_eq_getElem hi]; rfl
   rw [hEl] at HEO
   rw [← HEO] at HH5 HH6
   have HY : Hid (∀ i (hi : i < (toL f).length) (hiL : i < L.length),(kdT (pairP C K) (toL f)[i]).1 = L[i] ∧ (kdT (pairP C K) (toL f)[i]).2 = (E[i]?).getD 0) := hid fun i hi hiL => ⟨by subst hL; simp,by subst hE; rw [List.getElem?_eq_getElem (by simpa using hi)]; simp⟩
   replace HH5 : Hid _ := hid HH5
   replace HH6 : Hid _ := hid HH6
   subst hn
   clear hL hE HEO
   go_enter Tryz.func12,Tryz.ntmps12
   go_upto_region 1 with fail
   go_wp2
   clear hW
   generalize w.heap.size = q at d0 d1 d2 d3 d4 d5 d6 ⊢
   go_loopw [11,12] (fun v11 v12 wr => ∃ (k : Nat) (la : Option Addr) (lm ld : Nat),k ≤ 2 ∧ v12 = .int .i64 k ∧ v11 = .slice la lm ld ∧ OwnR 3 1 W.heap.size wr (.slice la lm ld) ((L.take k).map fun z => [.int .i64 z]) ∧ Hid (erO (fun i => (E[i]?).getD 0) k = 0) ∧ Below W.heap.size W wr) (fun _ i _ => 2 - (intOf i).toNat)
   case atStart => exact ⟨0,none,0,0,Nat.zero_le _,rfl,rfl,OwnR.nil _ _ _ _,hid rfl,Below.refl _ _⟩
   case round =>
    obtain ⟨k,la,lm,ld,hk,rfl,rfl,ho,HE,hB⟩ := hrel
    have z0 := cell_later hB d0
    have z6 := cell_later hB d6
    by_cases hlt : k < 2
    ·obtain ⟨_,_,_,e',_,_,_,hx⟩ := HAr.out wr hB
     cases e'
     obtain ⟨b,o,rfl,-,hxi⟩ := hx (by decide)
     obtain ⟨cs,hEl2,-,hcc⟩ := hxi k (by omega)
     obtain ⟨hY1,hY2⟩ := HY.out k (by omega) (by omega)
     have hIH := HIH.out _ (List.getElem_mem (l := toL f) (n := k) (by omega)) Q wr cs a n c ka kn kc (HCr.out wr hB) (HKr.out wr hB) hEl2
     rw [hY1,hY2] at hIH
     obtain ⟨y,hy⟩ : ∃ y,(toL f)[k]'(by omega) = y := ⟨_,rfl⟩
     rw [hy] at hEl2
     obtain ⟨ya,yn,yc,rfl,-⟩ := hEl2
     simp only [exC] at hcc hIH
     have hLk : L.take (k + 1) = L.take k ++ [L[k]'(by omega)] := List.take_succ_eq_append_getElem (by omega)
     have HLk : Hid _ := hid hLk
     obtain ⟨lk,hlk⟩ : ∃ lk,L[k]'(by omega) = lk := ⟨_,rfl⟩
     rw [hlk] at hIH HLk
     obtain ⟨ek,hek⟩ : ∃ ek,(E[k]?).getD 0 = ek := ⟨_,rfl⟩
     rw [hek] at hIH
     have HEk : Hid _ := hid hek
     replace hIH : Hid _ := hid hIH
     have e0 : wr.cell? ⟨b,o + k * 7,none⟩ = some (.int .i64 y.1.1) := hcc 0 (show 0 < 7 by decide)
     have e1 : wr.cell? ⟨b,o + k * 7 + 1,none⟩ = some (.int .i64 y.1.2.1) := hcc 1 (show 1 < 7 by decide)
     have e2 : wr.cell? ⟨b,o + k * 7 + 2,none⟩ = some (.int .i64 y.1.2.2.1) := hcc 2 (show 2 < 7 by decide)
     have e3 : wr.cell? ⟨b,o + k * 7 + 3,none⟩ = some (.string y.1.2.2.2.1) := hcc 3 (show 3 < 7 by decide)
     have e4 : wr.cell? ⟨b,o + k * 7 + 4,none⟩ = some (.string y.1.2.2.2.2.1) := hcc 4 (show 4 < 7 by decide)
     have e5 : wr.cell? ⟨b,o + k * 7 + 5,none⟩ = some (.string y.1.2.2.2.2.2) := hcc 5 (show 5 < 7 by decide)
     have e6 : wr.cell? ⟨b,o + k * 7 + 6,none⟩ = some (.slice ya yn yc) := hcc 6 (show 6 < 7 by decide)
     have hkm : (k : Int) < 2 := by omega
     clear hcc hxi hx hLk hlk hek hY1 hY2 hy
     go_wp2_with fail
     refine Calls.mono hIH.out ?_
     rintro e w4 ⟨rfl,hb4⟩
     have ho4 := ho.later hb4
     have hB4 := Below.on hB hb4
     clear hIH ho hb4 e0 e1 e2 e3 e4 e5 e6
     by_cases he0 : ek = 0
     ·subst he0
      have HE2 : Hid (erO (fun i => (E[i]?).getD 0) (k + 1) = 0) := hid (by rw [erO_succ,if_pos HE.out]; exact HEk.out)
      have ho5 := ho4.alloc (.cells #[.int .i64 lk] 3)
      have hB5 := bal hB4 (.cells #[.int .i64 lk] 3)
      have hblk := ho4.blk
      have hl5 : ((L.take k).map fun z => [Value.int .i64 z]).length ≤ 1000 := by rw [List.length_map,List.length_take]; omega
      clear ho4 hB4 HEk HE
      go_wp2_with (first | (at_builtin; go_must (refine wpList_appR Tryz.underlying23 Tryz.infoTInt2 rfl (by decide) (by decide) rfl (.tmp 96) (.tmp 98) rfl _ ((L.take k).map fun z => [.int .i64 z]) w4.heap.size [.int .i64 lk] rfl rfl ho5 rfl (by simp [Value.oneCell']) (newK1 w4 _ _) hl5 hB5.size ?_)) | fail)
      intro v' w6 hO6 hg6 hown
      have hB6 := below_grows hB5 hB5.size hg6 fun k e => (hblk k e).1
      obtain ⟨a2,m2,d2x,rfl⟩ := hO6.sl
      have hO7 : OwnR 3 1 W.heap.size w6 (.slice a2 m2 d2x) ((L.take (k + 1)).map fun z => [.int .i64 z]) := by rw [HLk.out,List.map_append,List.map_take]; exact hO6
      clear hO6 hg6 hown ho5 hB5 hblk hl5 z0 z6
      go_wp2
      go_roundw
      case rel => exact ⟨k + 1,a2,m2,d2x,by omega,by go_num,rfl,hO7,HE2,hB6⟩
      case measure => simp only [intOf]; omega
     ·have hst : erO (fun i => (E[i]?).getD 0) 2 = ek := (erO_stop (k := k) (n := 2) hlt HE.out (by show (E[k]?).getD 0 ≠ 0; rw [HEk.out]; exact he0)).trans HEk.out
      have hR5 := HH5.out (by rw [hst]; exact he0)
      rw [hst] at hR5
      subst hR5
      have q0 : decide (ek = 0) = false := by simpa using he0
      have q1 : (ek != 0) = true := by simpa using he0
      clear HH5 HH6 HE HEk
      go_wp2
      exact bodyPost_ret (v := .tuple #[.int .i64 0,.int .i64 ek]) (by simp [results,Tryz.results12]) rfl ⟨rfl,Below.on hw hB4⟩
    ·obtain rfl : k = 2 := by omega
     have hR6 := HH6.out HE.out
     rw [show L.take 2 = L from List.take_of_length_le (by omega)] at ho
     have hrow : RowIs eInt (fun _ => True) wr (.slice la lm ld) L := OwnR.rowE (e := eInt) ho (by simp) (fun _ _ _ => trivial) fun i h1 h2 => by show _ = _; simp
     obtain ⟨rl1,rl2,rl3,rl4⟩ := row_int hrow
     subst rl1
     have HLr : Hid _ := hid rl4
     clear HH5 HH6 HE ho hrow rl4 HY HIH HAr HCr HKr
     have hLne : L ≠ [] := by intro h; rw [h] at hLl; simp at hLl
     obtain ⟨T,hT⟩ : ∃ T,L.headD 0 = T := ⟨_,rfl⟩
     have HF1 : Hid (R = if ((T == 1 || T == 2) && L.all fun k => k == T) = true then (3,0) else (0,11)) := hid (by rw [hR6,takes_two L hLne,hT])
     obtain ⟨lb,lo,rfl,-,hlc⟩ := HLr.out (by omega)
     have c9 := hlc 0 (by omega)
     have h0T : L[0]'(by omega) = T := by
      rw [← hT]
      cases L with
      | nil => exact absurd rfl hLne
      | cons y r => rfl
     rw [h0T,Nat.add_zero] at c9
     have hL0 : (0 : Int) < (L.length : Int) := by omega
     clear hR6 hlc h0T hT hLne
     by_cases hT12 : T = 1 ∨ T = 2
     ·have HF2 : Hid (R = if (L.all fun k => k == T) = true then (3,0) else (0,11)) := hid (by rw [HF1.out]; rcases hT12 with rfl | rfl <;> simp)
      clear HF1
      go_upto_region 28 with fail
      go_cut [121] (fun v121 w' => v121 = .bool false ∧ wr = w')
      case first =>
       rcases hT12 with rfl | rfl
       ·go_wp2_with fail
        go_meet
        exact ⟨rfl,rfl⟩
       ·go_wp2_with fail
        go_meet
        exact ⟨rfl,rfl⟩
      case rest =>
       obtain ⟨rfl,rfl⟩ := hcut
       go_wp2
       clear z0 z6 c9
       generalize wr = w5 at *
       go_loopw [17] (fun v17 wr => ∃ i2 : Nat,i2 ≤ L.length ∧ v17 = .int .i64 i2 ∧ Below w5.heap.size w5 wr ∧ Hid (∀ j (hj : j < L.length),j < i2 → L[j] = T)) (fun i _ => L.length - (intOf i).toNat)
       case atStart => exact ⟨0,Nat.zero_le _,rfl,Below.refl _ _,hid fun j hj hji => absurd hji (by omega)⟩
       case round =>
        obtain ⟨i2,hi2,rfl,hB2,HE2⟩ := hrel
        by_cases hlt2 : i2 < L.length
        ·obtain ⟨lbx,lox,hla,-,hlc⟩ := HLr.out (by omega)
         cases hla
         have c9 := cell_later hB2 (hlc i2 hlt2)
         have him2 : (i2 : Int) < (L.length : Int) := by omega
         have HA9 : Hid (L[i2] ≠ T → R = (0,11)) := hid fun hne => by rw [HF2.out,all_at hlt2 hne]; rfl
         have HB9 : Hid (L[i2] = T → ∀ j (hj : j < L.length),j < i2 + 1 → L[j] = T) := hid fun he j hj hji => by
          by_cases e9 : j = i2
          ·subst e9; exact he
          ·exact HE2.out j hj (by omega)
         generalize L[i2] = l9 at *
         clear hlc HE2
         by_cases h9 : l9 = T
         ·subst h9
          go_wp2
          go_roundw
          case rel => exact ⟨i2 + 1,hlt2,by go_num,hB2,hid (HB9.out (by first | rfl | trivial))⟩
          case measure => simp only [intOf]; omega
         ·obtain rfl : R = (0,11) := HA9.out h9
          have q9 : decide (l9 = T) = false := by simpa using h9
          have q8 : (l9 != T) = true := by simpa using h9
          go_wp2
          exact bodyPost_ret (v := .tuple #[.int .i64 0,.int .i64 11]) (by simp [results,Tryz.results12]) rfl ⟨rfl,Below.on hw (Below.on hB hB2)⟩
        ·obtain rfl : i2 = L.length := by omega
         obtain rfl : R = (3,0) := by rw [HF2.out,all_of fun j hj => HE2.out j hj hj]; rfl
         clear HE2
         go_wp2
         exact bodyPost_ret (v := .tuple #[.int .i64 3,.int .i64 0]) (by simp [results,Tryz.results12]) rfl ⟨rfl,Below.on hw (Below.on hB hB2)⟩
     ·obtain rfl : R = (0,11) := by
       rw [HF1.out,if_neg]
       intro h
       simp only [Bool.and_eq_true,Bool.or_eq_true,beq_iff_eq] at h
       exact hT12 h.1
      have t1 : ¬ T = 1 := fun h => hT12 (.inl h)
      have t2 : ¬ T = 2 := fun h => hT12 (.inr h)
      have t1d : decide (T = 1) = false := by simpa using t1
      have t2d : decide (T = 2) = false := by simpa using t2
      have t1b : (T != 1) = true := by simpa using t1
      have t2b : (T != 2) = true := by simpa using t2
      go_wp2
      exact bodyPost_ret (v := .tuple #[.int .i64 0,.int .i64 11]) (by simp [results,Tryz.results12]) rfl ⟨rfl,Below.on hw hB⟩
  ·obtain rfl : R = (0,1) := H2.out _ hwy (by rw [hlen]; show (en : Int) ≠ 2; omega)
   have gn : ¬ (en : Int) = 2 := by omega
   have gd : decide ((en : Int) = 2) = false := by simpa using gn
   have gb : ((en : Int) != 2) = true := by simpa using gn
   clear H1 H2 H3 H4 H5 H6 HIH HAt HAr HCr HKr hwy
   go_enter Tryz.func12,Tryz.ntmps12
   go_upto_region 1 with fail
   go_wp2
   all_goals exact bodyPost_ret (v := .tuple #[.int .i64 0,.int .i64 1]) (by simp [results,Tryz.results12]) rfl ⟨rfl,hw⟩
 have n14 : 14 ≤ op := by omega
 have n14d : decide (14 ≤ op) = true := by simpa using n14
 clear hc
 by_cases hc : True
 ·have hwy : wayA op = some (2,[3],3) := by (obtain rfl | rfl : op = 14 ∨ op = 15 := by omega) <;> rfl
  by_cases hn : en = 2
  ·have HH5 := H5.out _ hwy (by rw [hlen,hn]; rfl) h1 h2
   have HH6 := H6.out _ hwy (by rw [hlen,hn]; rfl) h1 h2
   dsimp only at HH6
   clear H1 H2 H3 H4 H5 H6 HAt hwy
   have hLf : (toL f).length = 2 := by rw [hlen,hn]
   obtain ⟨L,hL⟩ : ∃ L,(toL f).map (fun x => (kdT (pairP C K) x).1) = L := ⟨_,rfl⟩
   obtain ⟨E,hE⟩ : ∃ E,(toL f).map (fun x => (kdT (pairP C K) x).2) = E := ⟨_,rfl⟩
   rw [hE] at HH5 HH6
   rw [hL] at HH6
   have hLl : L.length = 2 := by rw [← hL,List.length_map,hLf]
   have hEl : E.length = 2 := by rw [← hE,List.length_map,hLf]
   have HEO := erO_list (l := E) (er := fun i => (E[i]?).getD 0) fun i hi => by rw [List.getElem?_eq_getElem hi]; rfl
   rw [hEl] at HEO
   rw [← HEO] at HH5 HH6
   have HY : Hid (∀ i (hi : i < (toL f).length) (hiL : i < L.length),(kdT (pairP C K) (toL f)[i]).1 = L[i] ∧ (kdT (pairP C K) (toL f)[i]).2 = (E[i]?).getD 0) := hid fun i hi hiL => ⟨by subst hL; simp,by subst hE; rw [List.getElem?_eq_getElem (by simpa using hi)]; simp⟩
   replace HH5 : Hid _ := hid HH5
   replace HH6 : Hid _ := hid HH6
   subst hn
   clear hL hE HEO
   go_enter Tryz.func12,Tryz.ntmps12
   go_upto_region 1 with fail
   go_wp2
   clear hW
   generalize w.heap.size = q at d0 d1 d2 d3 d4 d5 d6 ⊢
   go_loopw [11,12] (fun v11 v12 wr => ∃ (k : Nat) (la : Option Addr) (lm ld : Nat),k ≤ 2 ∧ v12 = .int .i64 k ∧ v11 = .slice la lm ld ∧ OwnR 3 1 W.heap.size wr (.slice la lm ld) ((L.take k).map fun z => [.int .i64 z]) ∧ Hid (erO (fun i => (E[i]?).getD 0) k = 0) ∧ Below W.heap.size W wr) (fun _ i _ => 2 - (intOf i).toNat)
   case atStart => exact ⟨0,none,0,0,Nat.zero_le _,rfl,rfl,OwnR.nil _ _ _ _,hid rfl,Below.refl _ _⟩
   case round =>
    obtain ⟨k,la,lm,ld,hk,rfl,rfl,ho,HE,hB⟩ := hrel
    have z0 := cell_later hB d0
    have z6 := cell_later hB d6
    by_cases hlt : k < 2
    ·obtain ⟨_,_,_,e',_,_,_,hx⟩ := HAr.out wr hB
     cases e'
     obtain ⟨b,o,rfl,-,hxi⟩ := hx (by decide)
     obtain ⟨cs,hEl2,-,hcc⟩ := hxi k (by omega)
     obtain ⟨hY1,hY2⟩ := HY.out k (by omega) (by omega)
     have hIH := HIH.out _ (List.getElem_mem (l := toL f) (n := k) (by omega)) Q wr cs a n c ka kn kc (HCr.out wr hB) (HKr.out wr hB) hEl2
     rw [hY1,hY2] at hIH
     obtain ⟨y,hy⟩ : ∃ y,(toL f)[k]'(by omega) = y := ⟨_,rfl⟩
     rw [hy] at hEl2
     obtain ⟨ya,yn,yc,rfl,-⟩ := hEl2
     simp only [exC] at hcc hIH
     have hLk : L.take (k + 1) = L.take k ++ [L[k]'(by omega)] := List.take_succ_eq_append_getElem (by omega)
     have HLk : Hid _ := hid hLk
     obtain ⟨lk,hlk⟩ : ∃ lk,L[k]'(by omega) = lk := ⟨_,rfl⟩
     rw [hlk] at hIH HLk
     obtain ⟨ek,hek⟩ : ∃ ek,(E[k]?).getD 0 = ek := ⟨_,rfl⟩
     rw [hek] at hIH
     have HEk : Hid _ := hid hek
     replace hIH : Hid _ := hid hIH
     have e0 : wr.cell? ⟨b,o + k * 7,none⟩ = some (.int .i64 y.1.1) := hcc 0 (show 0 < 7 by decide)
     have e1 : wr.cell? ⟨b,o + k * 7 + 1,none⟩ = some (.int .i64 y.1.2.1) := hcc 1 (show 1 < 7 by decide)
     have e2 : wr.cell? ⟨b,o + k * 7 + 2,none⟩ = some (.int .i64 y.1.2.2.1) := hcc 2 (show 2 < 7 by decide)
     have e3 : wr.cell? ⟨b,o + k * 7 + 3,none⟩ = some (.string y.1.2.2.2.1) := hcc 3 (show 3 < 7 by decide)
     have e4 : wr.cell? ⟨b,o + k * 7 + 4,none⟩ = some (.string y.1.2.2.2.2.1) := hcc 4 (show 4 < 7 by decide)
     have e5 : wr.cell? ⟨b,o + k * 7 + 5,none⟩ = some (.string y.1.2.2.2.2.2) := hcc 5 (show 5 < 7 by decide)
     have e6 : wr.cell? ⟨b,o + k * 7 + 6,none⟩ = some (.slice ya yn yc) := hcc 6 (show 6 < 7 by decide)
     have hkm : (k : Int) < 2 := by omega
     clear hcc hxi hx hLk hlk hek hY1 hY2 hy
     go_wp2_with fail
     refine Calls.mono hIH.out ?_
     rintro e w4 ⟨rfl,hb4⟩
     have ho4 := ho.later hb4
     have hB4 := Below.on hB hb4
     clear hIH ho hb4 e0 e1 e2 e3 e4 e5 e6
     by_cases he0 : ek = 0
     ·subst he0
      have HE2 : Hid (erO (fun i => (E[i]?).getD 0) (k + 1) = 0) := hid (by rw [erO_succ,if_pos HE.out]; exact HEk.out)
      have ho5 := ho4.alloc (.cells #[.int .i64 lk] 3)
      have hB5 := bal hB4 (.cells #[.int .i64 lk] 3)
      have hblk := ho4.blk
      have hl5 : ((L.take k).map fun z => [Value.int .i64 z]).length ≤ 1000 := by rw [List.length_map,List.length_take]; omega
      clear ho4 hB4 HEk HE
      go_wp2_with (first | (at_builtin; go_must (refine wpList_appR Tryz.underlying23 Tryz.infoTInt2 rfl (by decide) (by decide) rfl (.tmp 96) (.tmp 98) rfl _ ((L.take k).map fun z => [.int .i64 z]) w4.heap.size [.int .i64 lk] rfl rfl ho5 rfl (by simp [Value.oneCell']) (newK1 w4 _ _) hl5 hB5.size ?_)) | fail)
      intro v' w6 hO6 hg6 hown
      have hB6 := below_grows hB5 hB5.size hg6 fun k e => (hblk k e).1
      obtain ⟨a2,m2,d2x,rfl⟩ := hO6.sl
      have hO7 : OwnR 3 1 W.heap.size w6 (.slice a2 m2 d2x) ((L.take (k + 1)).map fun z => [.int .i64 z]) := by rw [HLk.out,List.map_append,List.map_take]; exact hO6
      clear hO6 hg6 hown ho5 hB5 hblk hl5 z0 z6
      go_wp2
      go_roundw
      case rel => exact ⟨k + 1,a2,m2,d2x,by omega,by go_num,rfl,hO7,HE2,hB6⟩
      case measure => simp only [intOf]; omega
     ·have hst : erO (fun i => (E[i]?).getD 0) 2 = ek := (erO_stop (k := k) (n := 2) hlt HE.out (by show (E[k]?).getD 0 ≠ 0; rw [HEk.out]; exact he0)).trans HEk.out
      have hR5 := HH5.out (by rw [hst]; exact he0)
      rw [hst] at hR5
      subst hR5
      have q0 : decide (ek = 0) = false := by simpa using he0
      have q1 : (ek != 0) = true := by simpa using he0
      clear HH5 HH6 HE HEk
      go_wp2
      exact bodyPost_ret (v := .tuple #[.int .i64 0,.int .i64 ek]) (by simp [results,Tryz.results12]) rfl ⟨rfl,Below.on hw hB4⟩
    ·obtain rfl : k = 2 := by omega
     have hR6 := HH6.out HE.out
     rw [show L.take 2 = L from List.take_of_length_le (by omega)] at ho
     have hrow : RowIs eInt (fun _ => True) wr (.slice la lm ld) L := OwnR.rowE (e := eInt) ho (by simp) (fun _ _ _ => trivial) fun i h1 h2 => by show _ = _; simp
     obtain ⟨rl1,rl2,rl3,rl4⟩ := row_int hrow
     subst rl1
     have HLr : Hid _ := hid rl4
     clear HH5 HH6 HE ho hrow rl4 HY HIH HAr HCr HKr
     have HF2 : Hid (R = if (L.all fun k => k == 3) = true then (3,0) else (0,11)) := hid (by rw [hR6,takes_all])
     clear hR6
     go_wp2
     clear z0 z6
     generalize wr = w5 at *
     go_loopw [17] (fun v17 wr => ∃ i2 : Nat,i2 ≤ L.length ∧ v17 = .int .i64 i2 ∧ Below w5.heap.size w5 wr ∧ Hid (∀ j (hj : j < L.length),j < i2 → L[j] = 3)) (fun i _ => L.length - (intOf i).toNat)
     case atStart => exact ⟨0,Nat.zero_le _,rfl,Below.refl _ _,hid fun j hj hji => absurd hji (by omega)⟩
     case round =>
      obtain ⟨i2,hi2,rfl,hB2,HE2⟩ := hrel
      by_cases hlt2 : i2 < L.length
      ·obtain ⟨lbx,lox,hla,-,hlc⟩ := HLr.out (by omega)
       cases hla
       have c9 := cell_later hB2 (hlc i2 hlt2)
       have him2 : (i2 : Int) < (L.length : Int) := by omega
       have HA9 : Hid (L[i2] ≠ 3 → R = (0,11)) := hid fun hne => by rw [HF2.out,all_at hlt2 hne]; rfl
       have HB9 : Hid (L[i2] = 3 → ∀ j (hj : j < L.length),j < i2 + 1 → L[j] = 3) := hid fun he j hj hji => by
        by_cases e9 : j = i2
        ·subst e9; exact he
        ·exact HE2.out j hj (by omega)
       generalize L[i2] = l9 at *
       clear hlc HE2
       by_cases h9 : l9 = 3
       ·subst h9
        go_wp2
        go_roundw
        case rel => exact ⟨i2 + 1,hlt2,by go_num,hB2,hid (HB9.out (by first | rfl | trivial))⟩
        case measure => simp only [intOf]; omega
       ·obtain rfl : R = (0,11) := HA9.out h9
        have q9 : decide (l9 = 3) = false := by simpa using h9
        have q8 : (l9 != 3) = true := by simpa using h9
        go_wp2
        exact bodyPost_ret (v := .tuple #[.int .i64 0,.int .i64 11]) (by simp [results,Tryz.results12]) rfl ⟨rfl,Below.on hw (Below.on hB hB2)⟩
      ·obtain rfl : i2 = L.length := by omega
       obtain rfl : R = (3,0) := by rw [HF2.out,all_of fun j hj => HE2.out j hj hj]; rfl
       clear HE2
       go_wp2
       exact bodyPost_ret (v := .tuple #[.int .i64 3,.int .i64 0]) (by simp [results,Tryz.results12]) rfl ⟨rfl,Below.on hw (Below.on hB hB2)⟩
  ·obtain rfl : R = (0,1) := H2.out _ hwy (by rw [hlen]; show (en : Int) ≠ 2; omega)
   have gn : ¬ (en : Int) = 2 := by omega
   have gd : decide ((en : Int) = 2) = false := by simpa using gn
   have gb : ((en : Int) != 2) = true := by simpa using gn
   clear H1 H2 H3 H4 H5 H6 HIH HAt HAr HCr HKr hwy
   go_enter Tryz.func12,Tryz.ntmps12
   go_upto_region 1 with fail
   go_wp2
   all_goals exact bodyPost_ret (v := .tuple #[.int .i64 0,.int .i64 1]) (by simp [results,Tryz.results12]) rfl ⟨rfl,hw⟩
 exact absurd trivial hc
theorem rkind_all {C : List It} {K : List Int} (hC : C.length ≤ 500) (hK5 : K.length ≤ 500) : ∀ f : Tg,∀ x ∈ toL f,RKindC C K x := by
 intro f
 induction f with
 | nil => intro x hx; simp [toL] at hx
 | node a b p l r ihl ihr =>
  intro x hx
  rw [toL,List.mem_cons] at hx
  rcases hx with rfl | hx
  ·exact rkind_step hC hK5 (p,l) ihl
  ·exact ihr x hx
theorem rkind_any {C : List It} {K : List Int} (hC : C.length ≤ 500) (hK5 : K.length ≤ 500) (x : Pg × Tg) : RKindC C K x := rkind_step hC hK5 x (rkind_all hC hK5 x.2)

end Go.Proofs.YtljmlacnfnmjbaaGreat
