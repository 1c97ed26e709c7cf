import Derived.Test.YtnlaaejdianfjabGreatQpae
import Derived.Test.YtnlaaejdianfjabGreatQpab
import Derived.Deep.RegionHeld3
namespace Go.Proofs.YtnlaaejdianfjabGreat
open Go.RowKit
set_option linter.unusedVariables false
set_option linter.unusedSimpArgs false

/-- All numbers that stand in it fit. -/
def ftF : Tg → Prop
  | .nil => True
  | .node _ _ p l r => Fits p.2.2.1 ∧ ftF l ∧ ftF r
def ftT (x : Pg × Tg) : Prop := Fits x.1.2.2.1 ∧ ftF x.2
theorem ft_mem : ∀ {f : Tg}, ftF f → ∀ y ∈ toL f, ftT y := by
  intro f
  induction f with
  | nil => intro _ y hy; simp [toL] at hy
  | node a b p l r ihl ihr =>
    rintro ⟨h1, h2, h3⟩ y hy
    rw [toL, List.mem_cons] at hy
    rcases hy with rfl | hy
    · exact ⟨h1, h2⟩
    · exact ihr h3 y hy
theorem nV_fits (z : Int) : Fits (nV z) := by
  unfold nV
  split
  · assumption
  · exact ⟨by decide, by decide⟩
theorem fits0 : Fits 0 := ⟨by decide, by decide⟩
theorem trV_fits (b : Bool) : Fits (trV b).2.1 := by cases b <;> exact ⟨by decide, by decide⟩
theorem ev1_fits {C : List It} {V : List Vt} (hV : ∀ v ∈ V, Fits v.2.1) {p : Pg} (hp : Fits p.2.2.1) {rs : List (Vt × Int)} : Fits (ev1 C V p rs).1.2.1 := by
  unfold ev1
  split
  · exact fits0
  split
  · exact hp
  split
  · unfold colV
    split
    · cases h : V[(fidx (itV p.2.2.2.2.1 p.2.2.2.2.2) C).toNat]? with
      | none => exact fits0
      | some v => exact hV v (List.mem_of_getElem? h)
    · exact fits0
  split
  · unfold upP
    split
    · exact trV_fits _
    split
    · exact trV_fits _
    split
    · exact trV_fits _
    · exact trV_fits _
  split
  · unfold upP
    split
    · exact trV_fits _
    split
    · exact trV_fits _
    split
    · exact trV_fits _
    · exact trV_fits _
  split
  · exact fits0
  unfold madeP
  split
  · unfold recP
    split
    · exact fits0
    · exact nV_fits _
  split
  · exact trV_fits _
  unfold cmpdP
  split
  · exact fits0
  · exact trV_fits _
theorem evT_fits {C : List It} {V : List Vt} (hV : ∀ v ∈ V, Fits v.2.1) {x : Pg × Tg} (hx : ftT x) : Fits (evT C V x).1.2.1 := ev1_fits hV hx.1
theorem evT_len {C : List It} {V : List Vt} {x : Pg × Tg} (hn : ((toL x.2).length : Int) ≠ partsP x.1.1) : evT C V x = (vZ, 1) := by
  unfold evT ev1; rw [if_pos (by rw [evs_len]; exact hn)]
theorem evT_lit {C : List It} {V : List Vt} {x : Pg × Tg} (hn : ((toL x.2).length : Int) = partsP x.1.1) (h1 : x.1.1 = 1) : evT C V x = ((x.1.2.1, x.1.2.2.1, x.1.2.2.2.1), 0) := by
  unfold evT ev1; rw [if_neg (by rw [evs_len]; simpa using hn), if_pos h1]
theorem evT_col {C : List It} {V : List Vt} {x : Pg × Tg} (hn : ((toL x.2).length : Int) = partsP x.1.1) (h2 : x.1.1 = 2) : evT C V x = colV C V x.1.2.2.2.2.1 x.1.2.2.2.2.2 := by
  unfold evT ev1; rw [if_neg (by rw [evs_len]; simpa using hn), if_neg (by omega), if_pos h2]
theorem evT_and {C : List It} {V : List Vt} {x u v : Pg × Tg} (hl : toL x.2 = [u, v]) (h2 : x.1.1 = 14) : evT C V x = upP 0 (evT C V u) (evT C V v) := by
  have he : evs C V x.2 = [evT C V u, evT C V v] := by rw [evs_map, hl]; rfl
  unfold evT ev1
  rw [he, if_neg (by rw [h2]; intro hh; exact hh rfl), if_neg (by omega), if_neg (by omega), if_pos h2]; rfl
theorem evT_or {C : List It} {V : List Vt} {x u v : Pg × Tg} (hl : toL x.2 = [u, v]) (h2 : x.1.1 = 15) : evT C V x = upP 1 (evT C V u) (evT C V v) := by
  have he : evs C V x.2 = [evT C V u, evT C V v] := by rw [evs_map, hl]; rfl
  unfold evT ev1
  rw [he, if_neg (by rw [h2]; intro hh; exact hh rfl), if_neg (by omega), if_neg (by omega), if_neg (by omega), if_pos h2]; rfl
theorem evs_snd (C : List It) (V : List Vt) (f : Tg) : (evs C V f).map (·.2) = (toL f).map fun x => (evT C V x).2 := by rw [evs_map, List.map_map]; rfl
theorem evs_fst (C : List It) (V : List Vt) (f : Tg) : (evs C V f).map (·.1) = (toL f).map fun x => (evT C V x).1 := by rw [evs_map, List.map_map]; rfl
theorem evT_err {C : List It} {V : List Vt} {x : Pg × Tg} (hn : ((toL x.2).length : Int) = partsP x.1.1) (h1 : x.1.1 ≠ 1) (h2 : x.1.1 ≠ 2) (h3 : x.1.1 ≠ 14) (h4 : x.1.1 ≠ 15) (he : erL ((toL x.2).map fun x => (evT C V x).2) ≠ 0) : evT C V x = (vZ, erL ((toL x.2).map fun x => (evT C V x).2)) := by
  rw [evT, ev1, if_neg (by rw [evs_len]; simpa using hn), if_neg h1, if_neg h2, if_neg h3, if_neg h4, evs_snd, if_pos he]
theorem evT_made {C : List It} {V : List Vt} {x : Pg × Tg} (hn : ((toL x.2).length : Int) = partsP x.1.1) (h1 : x.1.1 ≠ 1) (h2 : x.1.1 ≠ 2) (h3 : x.1.1 ≠ 14) (h4 : x.1.1 ≠ 15) (he : erL ((toL x.2).map fun x => (evT C V x).2) = 0) : evT C V x = madeP x.1.1 ((toL x.2).map fun x => (evT C V x).1) := by
  rw [evT, ev1, if_neg (by rw [evs_len]; simpa using hn), if_neg h1, if_neg h2, if_neg h3, if_neg h4, evs_snd, if_neg (by simpa using he), evs_fst]
theorem parts_vals (op : Int) : partsP op = -1 ∨ ((op = 1 ∨ op = 2) ∧ partsP op = 0) ∨ ((op = 3 ∨ op = 4) ∧ partsP op = 1) ∨ ((5 ≤ op ∧ op ≤ 15) ∧ partsP op = 2) := by
  unfold partsP
  split
  · exact .inr (.inl ⟨.inl (by assumption), rfl⟩)
  split
  · exact .inr (.inl ⟨.inr (by assumption), rfl⟩)
  split
  · exact .inr (.inr (.inl ⟨.inl (by assumption), rfl⟩))
  split
  · exact .inr (.inr (.inl ⟨.inr (by assumption), rfl⟩))
  split
  · exact .inr (.inr (.inr ⟨by assumption, rfl⟩))
  · exact .inl rfl

/-- What comesTo tells of an expression. -/
def EvC (C : List It) (V : List Vt) (x : Pg × Tg) : Prop := ∀ (Q : Nat → Prop) (w : World) (cs : List Value) (a : Option Addr) (n c : Nat) (a2 : Option Addr) (n2 c2 : Nat), RowIs eItem (fun _ => True) w (.slice a n c) C → RowIs eVal (fun _ => True) w (.slice a2 n2 c2) V → eG.E Q w x cs → Calls Tryz.prog 54 #[.agg #[.slice a n c, .slice a2 n2 c2], .agg cs.toArray] w fun en w' => en = .returned (.tuple #[vV (evT C V x).1, .int .i64 (evT C V x).2]) ∧ Below w.heap.size w w'
set_option maxRecDepth 100000 in
set_option maxHeartbeats 8000000 in
theorem ev_step {C : List It} {V : List Vt} (hlen : C.length ≤ 500) (hCV : C.length = V.length) (hVf : ∀ v ∈ V, Fits v.2.1) (x : Pg × Tg) (hft : ftT x) (ih : ∀ y ∈ toL x.2, EvC C V y) : EvC C V x := by
  intro Q w cs a n c a2 n2 c2 hC hV hx
  have hEx' := hx
  obtain ⟨ea, en, ec, rfl, hsl⟩ := hEx'
  have hlenx := hsl.1
  have hec := hsl.2.1
  have hecm := hsl.2.2.1
  simp only [exC] at *
  have hw := bal (bal (bal (Below.refl w.heap.size w) (.cells #[.slice a n c, .slice a2 n2 c2] 113)) (.cells #[.int .i64 x.1.1, .int .i64 x.1.2.1, .int .i64 x.1.2.2.1, .string x.1.2.2.2.1, .string x.1.2.2.2.2.1, .string x.1.2.2.2.2.2, .slice ea en ec] 42)) zV
  have bS : Bk (((w.alloc (.cells #[.slice a n c, .slice a2 n2 c2] 113)).alloc (.cells #[.int .i64 x.1.1, .int .i64 x.1.2.1, .int .i64 x.1.2.2.1, .string x.1.2.2.2.1, .string x.1.2.2.2.2.1, .string x.1.2.2.2.2.2, .slice ea en ec] 42)).alloc zV) w.heap.size (.cells #[.slice a n c, .slice a2 n2 c2] 113) := ((Bk.new w _).later (bal (Below.refl _ _) _)).later (bal (Below.refl _ _) _)
  have bx : Bk (((w.alloc (.cells #[.slice a n c, .slice a2 n2 c2] 113)).alloc (.cells #[.int .i64 x.1.1, .int .i64 x.1.2.1, .int .i64 x.1.2.2.1, .string x.1.2.2.2.1, .string x.1.2.2.2.2.1, .string x.1.2.2.2.2.2, .slice ea en ec] 42)).alloc zV) (w.heap.size + 1) (.cells #[.int .i64 x.1.1, .int .i64 x.1.2.1, .int .i64 x.1.2.2.1, .string x.1.2.2.2.1, .string x.1.2.2.2.2.1, .string x.1.2.2.2.2.2, .slice ea en ec] 42) := by
    have := (Bk.new (w.alloc (.cells #[.slice a n c, .slice a2 n2 c2] 113)) (.cells #[.int .i64 x.1.1, .int .i64 x.1.2.1, .int .i64 x.1.2.2.1, .string x.1.2.2.2.1, .string x.1.2.2.2.2.1, .string x.1.2.2.2.2.2, .slice ea en ec] 42)).later (bal (Below.refl _ _) zV)
    rwa [World.size_alloc] at this
  have hz : Bv (((w.alloc (.cells #[.slice a n c, .slice a2 n2 c2] 113)).alloc (.cells #[.int .i64 x.1.1, .int .i64 x.1.2.1, .int .i64 x.1.2.2.1, .string x.1.2.2.2.1, .string x.1.2.2.2.2.1, .string x.1.2.2.2.2.2, .slice ea en ec] 42)).alloc zV) (w.heap.size + 2) 0 0 ⟨#[]⟩ := by
    have := Bv.new ((w.alloc (.cells #[.slice a n c, .slice a2 n2 c2] 113)).alloc (.cells #[.int .i64 x.1.1, .int .i64 x.1.2.1, .int .i64 x.1.2.2.1, .string x.1.2.2.2.1, .string x.1.2.2.2.2.1, .string x.1.2.2.2.2.2, .slice ea en ec] 42))
    rwa [World.size_alloc, World.size_alloc] at this
  generalize hW : ((w.alloc (.cells #[.slice a n c, .slice a2 n2 c2] 113)).alloc (.cells #[.int .i64 x.1.1, .int .i64 x.1.2.1, .int .i64 x.1.2.2.1, .string x.1.2.2.2.1, .string x.1.2.2.2.2.1, .string x.1.2.2.2.2.2, .slice ea en ec] 42)).alloc zV = W at hw bS bx hz
  have hC1 : Hid (∀ w', Below W.heap.size W w' → RowIs eItem (fun _ => True) w' (.slice a n c) C) := hid fun w' hb => hC.keep (by decide) fun b _ hl => (Below.on hw hb).block b hl
  have hV1 : Hid (∀ w', Below W.heap.size W w' → RowIs eVal (fun _ => True) w' (.slice a2 n2 c2) V) := hid fun w' hb => hV.keep (by decide) fun b _ hl => (Below.on hw hb).block b hl
  have hA1 : Hid (∀ w', Below W.heap.size W w' → RowIs eG Q w' (.slice ea en ec) (toL x.2)) := hid fun w' hb => hsl.row.keep (by decide) fun b _ hl => (Below.on hw hb).block b hl
  have HEv : Hid (∀ w', Below W.heap.size W w' → EvF (evT C V) (fun y => y ∈ toL x.2) w' 54 (.agg #[.slice a n c, .slice a2 n2 c2])) := hid fun w' hb => ⟨fun args w2 => by rfl, fun y Q2 cs2 w2 hy hb2 hx2 => ih y hy Q2 w2 cs2 a n c a2 n2 c2 (hC1.out w2 (Below.on hb hb2)) (hV1.out w2 (Below.on hb hb2)) hx2⟩
  have HCol : Hid (∀ w', Below W.heap.size W w' → _) := hid fun w' hb => columnV_any hlen hCV x.1.2.2.2.2.1 x.1.2.2.2.2.2 (hC1.out w' hb) (hV1.out w' hb)
  have HUp : Hid (∀ z : Int, (z = 0 ∨ z = 1) → ∀ u v, toL x.2 = [u, v] → ∀ w', Below W.heap.size W w' → Calls Tryz.prog 81 #[.agg #[.slice a n c, .slice a2 n2 c2], .int .i64 z, .slice ea en ec] w' fun en w'' => en = .returned (.tuple #[vV (upP z (evT C V u) (evT C V v)).1, .int .i64 (upP z (evT C V u) (evT C V v)).2]) ∧ Below w'.heap.size w' w'') := hid fun z hz01 u v hl w' hb => upTo_any z hz01 (HEv.out w' hb) (x := u) (y := v) (by rw [hl]; simp) (by rw [hl]; simp) (by have := hA1.out w' hb; rwa [hl] at this)
  have HEa : Hid ((toL x.2).length ≤ 2 → ∀ w', Below W.heap.size W w' → _) := hid fun hl2 w' hb => eachE_any (f := evT C V) (P := fun y => y ∈ toL x.2) hl2 (hA1.out w' hb) (HEv.out w' hb) (fun y hy => hy)
  have HMd : Hid (MadeOK x.1.1 ((toL x.2).map fun x => (evT C V x).1) → ∀ (w' : World) (ao : Option Addr) (m d : Nat), RowIs eVal (fun _ => True) w' (.slice ao m d) ((toL x.2).map fun x => (evT C V x).1) → _) := hid fun hm w' ao m d hr => made_any hm (fun v hv => by obtain ⟨y, hy, rfl⟩ := List.mem_map.1 hv; exact evT_fits hVf (ft_mem hft.2 y hy)) hr
  have H1 : Hid (((toL x.2).length : Int) ≠ partsP x.1.1 → evT C V x = (vZ, 1)) := hid evT_len
  have H2 : Hid (((toL x.2).length : Int) = partsP x.1.1 → x.1.1 = 1 → evT C V x = ((x.1.2.1, x.1.2.2.1, x.1.2.2.2.1), 0)) := hid evT_lit
  have H3 : Hid (((toL x.2).length : Int) = partsP x.1.1 → x.1.1 = 2 → evT C V x = colV C V x.1.2.2.2.2.1 x.1.2.2.2.2.2) := hid evT_col
  have H4 : Hid (∀ u v, toL x.2 = [u, v] → x.1.1 = 14 → evT C V x = upP 0 (evT C V u) (evT C V v)) := hid fun u v => evT_and
  have H5 : Hid (∀ u v, toL x.2 = [u, v] → x.1.1 = 15 → evT C V x = upP 1 (evT C V u) (evT C V v)) := hid fun u v => evT_or
  have H6 : Hid (((toL x.2).length : Int) = partsP x.1.1 → x.1.1 ≠ 1 → x.1.1 ≠ 2 → x.1.1 ≠ 14 → x.1.1 ≠ 15 → erL ((toL x.2).map fun x => (evT C V x).2) ≠ 0 → evT C V x = (vZ, erL ((toL x.2).map fun x => (evT C V x).2))) := hid evT_err
  have H7 : Hid (((toL x.2).length : Int) = partsP x.1.1 → x.1.1 ≠ 1 → x.1.1 ≠ 2 → x.1.1 ≠ 14 → x.1.1 ≠ 15 → erL ((toL x.2).map fun x => (evT C V x).2) = 0 → evT C V x = madeP x.1.1 ((toL x.2).map fun x => (evT C V x).1)) := hid evT_made
  have HP : Hid _ := hid (parts_any x.1.1)
  have hpv := parts_vals x.1.1
  have HL2 : Hid (∀ k : Nat, (toL x.2).length = k → k = 2 → ∃ u v, toL x.2 = [u, v]) := hid fun k h hk => by
    subst hk
    match toL x.2, h with
    | [u, v], _ => exact ⟨u, v, rfl⟩
  obtain ⟨K, hK⟩ : ∃ K, evT C V x = K := ⟨_, rfl⟩
  rw [hK] at H1 H2 H3 H4 H5 H6 H7 ⊢
  clear hx hsl hC hV ih hC1 hV1 hA1 HEv hK hft hVf hCV hlen
  have hLl : ((toL x.2).map fun x => (evT C V x).1).length = (toL x.2).length := List.length_map _
  have s0 := bS.cell 0
  have s1 := bS.cell 1
  have d0 := bx.cell 0
  have d1 := bx.cell 1
  have d2 := bx.cell 2
  have d3 := bx.cell 3
  have d4 := bx.cell 4
  have d5 := bx.cell 5
  have d6 := bx.cell 6
  simp only [List.getElem?_toArray, List.getElem?_cons_zero, List.getElem?_cons_succ] at s0 s1 d0 d1 d2 d3 d4 d5 d6
  obtain ⟨⟨op, k1, k2, k3, k4, k5⟩, f⟩ := x
  dsimp only at *
  generalize erL ((toL f).map fun x => (evT C V x).2) = E at *
  generalize (toL f).map (fun x => (evT C V x).1) = L at *
  generalize colV C V k4 k5 = CK at *
  clear bS bx
  generalize hfl : toL f = fL at *
  rw [hlenx] at H1 H2 H3 H6 H7 HEa hLl HL2
  generalize partsP op = pp at *
  go_enter Tryz.func54, Tryz.ntmps54
  go_upto_region 1 with fail
  (try rw [hW])
  clear hW
  go_quiet ((go_at_call 79; exact Calls.quiet_of_same (HP.out _)))
  have hq : Below W.heap.size W (W.drewN nq) := ⟨rfl, rfl, rfl, Nat.le_refl _, fun _ _ => rfl⟩
  have hB := Below.on hw hq
  replace hz := hz.later hq
  replace s0 := cell_later hq s0
  replace s1 := cell_later hq s1
  replace d0 := cell_later hq d0
  replace d1 := cell_later hq d1
  replace d2 := cell_later hq d2
  replace d3 := cell_later hq d3
  replace d4 := cell_later hq d4
  replace d5 := cell_later hq d5
  replace d6 := cell_later hq d6
  generalize W.drewN nq = Y at *
  clear HP hw
  obtain ⟨qz, hqz⟩ : ∃ qz, w.heap.size + 2 = qz := ⟨_, rfl⟩
  rw [hqz] at hz
  have hqz' : w.heap.size ≤ qz := by omega
  by_cases hn : (en : Int) = pp
  · subst hn
    have hp0 : (((en : Int)) != (en : Int)) = false := by simp
    by_cases h1 : op = 1
    · obtain rfl := H2.out rfl h1
      subst h1
      clear H1 H2 H3 H4 H5 H6 H7 HEa HCol HUp HMd HL2 hq
      obtain ⟨c0, c1, c2⟩ := hz.cells
      obtain ⟨f0, f1, f2⟩ := hz.free
      have hl := hz.lt
      clear hz
      go_wp2
      exact bodyPost_ret (v := .tuple #[vV (k1, k2, k3), .int .i64 0]) (by simp [results, Tryz.results54, go_sem, c0, c1, c2]) rfl ⟨rfl, below3 hB (by omega) _ _ _⟩
    have g1 : decide (op = 1) = false := by simpa using h1
    by_cases h2 : op = 2
    · obtain rfl := H3.out rfl h2
      subst h2
      have HC2 : Hid _ := hid (HCol.out Y hq)
      clear H1 H2 H3 H4 H5 H6 H7 HEa HCol HUp HMd HL2 hq
      go_wp2_with fail
      refine Calls.mono HC2.out ?_
      rintro e w4 ⟨rfl, hb4⟩
      replace hB := Below.on hB hb4
      replace hz := hz.later hb4
      clear HC2 hb4
      obtain ⟨c0, c1, c2⟩ := hz.cells
      obtain ⟨f0, f1, f2⟩ := hz.free
      have hl := hz.lt
      clear hz
      go_wp2
      exact bodyPost_ret (v := .tuple #[vV K.1, .int .i64 K.2]) (by simp [results, Tryz.results54, go_sem, c0, c1, c2]) rfl ⟨rfl, below3 hB (by omega) _ _ _⟩
    have g2 : decide (op = 2) = false := by simpa using h2
    by_cases h3 : op = 14
    · obtain ⟨u, v, huv⟩ := HL2.out _ rfl (by omega)
      have hK := H4.out u v huv h3
      subst h3
      have HU2 : Hid _ := hid (HUp.out 0 (.inl rfl) u v huv Y hq)
      rw [← hK] at HU2
      clear H1 H2 H3 H4 H5 H6 H7 HEa HCol HUp HMd HL2 hq huv hK
      go_wp2_with fail
      refine Calls.mono HU2.out ?_
      rintro e w4 ⟨rfl, hb4⟩
      replace hB := Below.on hB hb4
      replace hz := hz.later hb4
      clear HU2 hb4
      obtain ⟨c0, c1, c2⟩ := hz.cells
      obtain ⟨f0, f1, f2⟩ := hz.free
      have hl := hz.lt
      clear hz
      go_wp2
      exact bodyPost_ret (v := .tuple #[vV K.1, .int .i64 K.2]) (by simp [results, Tryz.results54, go_sem, c0, c1, c2]) rfl ⟨rfl, below3 hB (by omega) _ _ _⟩
    have g3 : decide (op = 14) = false := by simpa using h3
    by_cases h4 : op = 15
    · obtain ⟨u, v, huv⟩ := HL2.out _ rfl (by omega)
      have hK := H5.out u v huv h4
      subst h4
      have HU2 : Hid _ := hid (HUp.out 1 (.inr rfl) u v huv Y hq)
      rw [← hK] at HU2
      clear H1 H2 H3 H4 H5 H6 H7 HEa HCol HUp HMd HL2 hq huv hK
      go_wp2_with fail
      refine Calls.mono HU2.out ?_
      rintro e w4 ⟨rfl, hb4⟩
      replace hB := Below.on hB hb4
      replace hz := hz.later hb4
      clear HU2 hb4
      obtain ⟨c0, c1, c2⟩ := hz.cells
      obtain ⟨f0, f1, f2⟩ := hz.free
      have hl := hz.lt
      clear hz
      go_wp2
      exact bodyPost_ret (v := .tuple #[vV K.1, .int .i64 K.2]) (by simp [results, Tryz.results54, go_sem, c0, c1, c2]) rfl ⟨rfl, below3 hB (by omega) _ _ _⟩
    have g4 : decide (op = 15) = false := by simpa using h4
    have HE2 : Hid _ := hid (HEa.out (by omega) Y hq)
    have HM2 : Hid _ := hid (HMd.out (by unfold MadeOK; rw [hLl]; omega))
    replace H6 : Hid _ := hid (H6.out rfl h1 h2 h3 h4)
    replace H7 : Hid _ := hid (H7.out rfl h1 h2 h3 h4)
    clear H1 H2 H3 H4 H5 HEa HCol HUp HMd HL2 hq
    go_wp2_with fail
    refine Calls.mono HE2.out ?_
    rintro e w4 ⟨a3, m3, c3, rfl, hb4, hr4⟩
    have HR4 : Hid _ := hid hr4
    replace hB := Below.on hB hb4
    replace hz := hz.later hb4
    replace d0 := cell_later hb4 d0
    clear HE2 hb4 hr4
    by_cases he : E = 0
    · subst he
      have hK := H7.out (by first | rfl | trivial)
      have HM3 : Hid _ := hid (HM2.out _ _ _ _ (HR4.out (by first | rfl | trivial)))
      rw [← hK] at HM3
      clear HM2 HR4 H6 H7 hK
      go_wp2_with fail
      refine Calls.mono HM3.out ?_
      rintro e w5 ⟨rfl, hb5⟩
      replace hB := Below.on hB hb5
      replace hz := hz.later hb5
      clear HM3 hb5
      obtain ⟨c0, c1, c2⟩ := hz.cells
      obtain ⟨f0, f1, f2⟩ := hz.free
      have hl := hz.lt
      clear hz
      go_wp2
      exact bodyPost_ret (v := .tuple #[vV K.1, .int .i64 K.2]) (by simp [results, Tryz.results54, go_sem, c0, c1, c2]) rfl ⟨rfl, below3 hB (by omega) _ _ _⟩
    · obtain rfl := H6.out he
      have ge : decide (E = 0) = false := by simpa using he
      have gn : (E != 0) = true := by simpa using he
      clear HM2 HR4 H6 H7
      obtain ⟨c0, c1, c2⟩ := hz.cells
      obtain ⟨f0, f1, f2⟩ := hz.free
      have hl := hz.lt
      clear hz
      go_wp2
      exact bodyPost_ret (v := .tuple #[vV vZ, .int .i64 E]) (by simp [results, Tryz.results54, go_sem, c0, c1, c2]) rfl ⟨rfl, below3 hB (by omega) _ _ _⟩
  · obtain rfl := H1.out hn
    have gn : ((en : Int) != pp) = true := by simpa using hn
    have gd : decide ((en : Int) = pp) = false := by simpa using hn
    clear H1 H2 H3 H4 H5 H6 H7 HEa HCol HUp HMd HL2 hq
    obtain ⟨c0, c1, c2⟩ := hz.cells
    obtain ⟨f0, f1, f2⟩ := hz.free
    have hl := hz.lt
    clear hz
    go_wp2
    exact bodyPost_ret (v := .tuple #[vV vZ, .int .i64 1]) (by simp [results, Tryz.results54, go_sem, c0, c1, c2]) rfl ⟨rfl, below3 hB (by omega) _ _ _⟩

theorem ev_all {C : List It} {V : List Vt} (hlen : C.length ≤ 500) (hCV : C.length = V.length) (hVf : ∀ v ∈ V, Fits v.2.1) : ∀ f : Tg, ftF f → ∀ x ∈ toL f, EvC C V x := by
  intro f
  induction f with
  | nil => intro _ x hx; simp [toL] at hx
  | node a b p l r ihl ihr =>
    rintro ⟨h1, h2, h3⟩ x hx
    rw [toL, List.mem_cons] at hx
    rcases hx with rfl | hx
    · exact ev_step hlen hCV hVf (p, l) ⟨h1, h2⟩ (ihl h2)
    · exact ihr h3 x hx
theorem ev_any {C : List It} {V : List Vt} (hlen : C.length ≤ 500) (hCV : C.length = V.length) (hVf : ∀ v ∈ V, Fits v.2.1) (x : Pg × Tg) (hft : ftT x) : EvC C V x := ev_step hlen hCV hVf x hft (ev_all hlen hCV hVf x.2 hft.2)

end Go.Proofs.YtnlaaejdianfjabGreat
namespace Go.Proofs.YtnlaaejdianfjabGreat
open Go.RowKit
set_option linter.unusedVariables false
set_option linter.unusedSimpArgs false

set_option maxRecDepth 100000 in
theorem slice_itemsUp {ao : Option Addr} {n c : Nat} (hc : n ≤ c) (w' : World) : (Instr.slice 44 (.slice ao n c) none (some (.int .i64 n)) none).run Tryz.prog w' = .ok (.slice ao n c) w' := by
  have e0 : ∀ a : Addr, a.add 0 = a := fun a => by unfold Addr.add; simp
  have hrc' : (n : Int) ≤ (c : Int) := by omega
  cases ao with
  | none => go_simp
  | some a => go_simp
set_option maxRecDepth 100000 in
theorem slice_valsUp {ao : Option Addr} {n c : Nat} (hc : n ≤ c) (w' : World) : (Instr.slice 48 (.slice ao n c) none (some (.int .i64 n)) none).run Tryz.prog w' = .ok (.slice ao n c) w' := by
  have e0 : ∀ a : Addr, a.add 0 = a := fun a => by unfold Addr.add; simp
  have hrc' : (n : Int) ≤ (c : Int) := by omega
  cases ao with
  | none => go_simp
  | some a => go_simp
theorem Bk.st3 {y : World} {q : Nat} {a b c : Value} {t : TypeId} (h : Bk y q (.cells #[a, b, c] t (0, 0))) (u v z : Value) : Bk (stW y q [u, v, z]) q (.cells #[u, v, z] t (0, 0)) := ⟨by
  show (((y.setCell ⟨q, 0, none⟩ u).setCell ⟨q, 0 + 1, none⟩ v).setCell ⟨q, 0 + 1 + 1, none⟩ z).heap[q]? = _
  simp [World.setCell, Array.getElem?_modify, h.row]⟩
set_option maxRecDepth 100000 in
set_option maxHeartbeats 4000000 in
theorem pairedV_any {a : Option Addr} {n c : Nat} {a2 : Option Addr} {c2 : Nat} (h1 : n ≤ c) (h2 : n ≤ c2) (hc1 : c ≤ 9223372036854775807) (hc2 : c2 ≤ 9223372036854775807) (w : World) : Calls Tryz.prog 51 #[.slice a n c, .slice a2 n c2] w fun en w' => en = .returned (.agg #[.slice a n c, .slice a2 n c2]) ∧ Below w.heap.size w w' := by
  have hw := bal (Below.refl w.heap.size w) (.cells #[.slice none 0 0, .slice none 0 0] 113)
  have bx : Bk (w.alloc (.cells #[.slice none 0 0, .slice none 0 0] 113)) w.heap.size (.cells #[.slice none 0 0, .slice none 0 0] 113) := Bk.new w _
  have e1 := fun w' => slice_itemsUp (ao := a) h1 w'
  have e2 := fun w' => slice_valsUp (ao := a2) h2 w'
  go_enter Tryz.func51, Tryz.ntmps51
  go_upto_region 2 with fail
  generalize w.alloc (.cells #[.slice none 0 0, .slice none 0 0] 113) = W at *
  replace bx : Bk W.drew w.heap.size (.cells #[.slice none 0 0, .slice none 0 0] 113) := ⟨bx.row⟩
  have hY : Below w.heap.size w W.drew := hw.drew
  generalize hz : w.heap.size = z at bx ⊢
  refine wp_region_held_drew (S := fun w' => True) (by kernel_rfl) (trivial) (fun hHeld => ?_)
  refine wpAnyH_take (i := 0) (v := ?tv1) rfl (by kernel_rfl) (by kernel_rfl) (by kernel_rfl) (fun _ _ _ h => h) (Or.inl ⟨by rfl, ?hy1⟩) (by assumption) ?rs1
  case hy1 => (intro w9 hSw; (try dsimp only at hSw); go_simp; (try with_reducible rfl))
  (try simp only [Act.put, List.getElem_toArray, List.getElem_cons_zero, List.getElem_cons_succ, List.setIfInBounds_toArray, List.set_cons_zero, List.set_cons_succ])
  refine wpAnyH_take (i := 1) (v := ?tv2) rfl (by kernel_rfl) (by kernel_rfl) (by kernel_rfl) (fun _ _ _ h => h) (Or.inl ⟨by rfl, ?hy2⟩) (by assumption) ?rs2
  case hy2 => (intro w9 hSw; (try dsimp only at hSw); go_simp; (try with_reducible rfl))
  (try simp only [Act.put, List.getElem_toArray, List.getElem_cons_zero, List.getElem_cons_succ, List.setIfInBounds_toArray, List.set_cons_zero, List.set_cons_succ])
  refine wpAnyH_take (i := 2) (v := ?tv3) rfl (by kernel_rfl) (by kernel_rfl) (by kernel_rfl) (fun _ _ _ h => h) (Or.inl ⟨by rfl, ?hy3⟩) (by assumption) ?rs3
  case hy3 => (intro w9 hSw; (try dsimp only at hSw); go_simp; (try with_reducible rfl))
  (try simp only [Act.put, List.getElem_toArray, List.getElem_cons_zero, List.getElem_cons_succ, List.setIfInBounds_toArray, List.set_cons_zero, List.set_cons_succ])
  refine wpAnyH_take (i := 3) (v := ?tv4) rfl (by kernel_rfl) (by kernel_rfl) (by kernel_rfl) (fun _ _ _ h => h) (Or.inl ⟨by rfl, ?hy4⟩) (by assumption) ?rs4
  case hy4 => (intro w9 hSw; (try dsimp only at hSw); go_simp; (try with_reducible rfl))
  (try simp only [Act.put, List.getElem_toArray, List.getElem_cons_zero, List.getElem_cons_succ, List.setIfInBounds_toArray, List.set_cons_zero, List.set_cons_succ])
  refine wpAnyH_take (i := 4) (v := ?tv5) rfl (by kernel_rfl) (by kernel_rfl) (by kernel_rfl) (fun _ _ _ h => h) (Or.inl ⟨by rfl, ?hy5⟩) (by assumption) ?rs5
  case hy5 => (intro w9 hSw; (try dsimp only at hSw); go_simp; (try with_reducible rfl))
  (try simp only [Act.put, List.getElem_toArray, List.getElem_cons_zero, List.getElem_cons_succ, List.setIfInBounds_toArray, List.set_cons_zero, List.set_cons_succ])
  refine wpAnyH_take (i := 5) (v := ?tv6) rfl (by kernel_rfl) (by kernel_rfl) (by kernel_rfl) (fun _ _ _ h => h) (Or.inl ⟨by rfl, ?hy6⟩) (by assumption) ?rs6
  case hy6 => (intro w9 hSw; (try dsimp only at hSw); go_simp; (try with_reducible rfl))
  (try simp only [Act.put, List.getElem_toArray, List.getElem_cons_zero, List.getElem_cons_succ, List.setIfInBounds_toArray, List.set_cons_zero, List.set_cons_succ])
  refine wpAnyH_take (i := 6) (v := ?tv7) rfl (by kernel_rfl) (by kernel_rfl) (by kernel_rfl) (fun _ _ _ h => h) (Or.inl ⟨by rfl, ?hy7⟩) (by assumption) ?rs7
  case hy7 => (intro w9 hSw; (try dsimp only at hSw); go_simp; (try with_reducible rfl))
  (try simp only [Act.put, List.getElem_toArray, List.getElem_cons_zero, List.getElem_cons_succ, List.setIfInBounds_toArray, List.set_cons_zero, List.set_cons_succ])
  refine wpAnyH_ready (rs := [7]) (by kernel_rfl) (by simp) ?_
  refine AllReadyH.cons rfl (fun K hK => ?_) AllReadyH.nil
  have hth : W.drew.there z 0 2 := bx.there rfl
  have z0 := stW_cell (l := [.slice a n c, .slice a2 n c2]) hth (j := 0) rfl
  have z1 := stW_cell (l := [.slice a n c, .slice a2 n c2]) hth (j := 1) rfl
  rw [if_pos (by rfl)]
  refine wp_store_mid _ _ _ rfl z 0 (List.toArray [.slice a n c, .slice a2 n c2]) rfl rfl hth (by kernel_rfl) (by simp [Value.oneCell']) ?_
  show K _ (stW W.drew z [.slice a n c, .slice a2 n c2])
  refine hK.out _ _ (⟨⟩) (fun hHeld => ?_)
  clear hK K hth
  (try simp only [Act.put, List.getElem_toArray, List.getElem_cons_zero, List.getElem_cons_succ, List.setIfInBounds_toArray, List.set_cons_zero, List.set_cons_succ])
  refine wpAnyH_done (by kernel_rfl) ?_ _
  · clear bx
    go_wp2
    refine bodyPost_ret (v := .agg #[.slice a n c, .slice a2 n c2]) (by simp [results, Tryz.results51, go_sem, z0, z1]) rfl ⟨rfl, ?_⟩
    subst hz
    exact stW_below hY (Nat.le_refl _)

end Go.Proofs.YtnlaaejdianfjabGreat
namespace Go.Proofs.YtnlaaejdianfjabGreat
open Go.RowKit
set_option linter.unusedVariables false
set_option linter.unusedSimpArgs false

set_option maxRecDepth 100000 in
set_option maxHeartbeats 4000000 in
theorem holds1_any {f : Pg × Tg → Vt × Int} {P : Pg × Tg → Prop} {bs : Nat} {sa sb : Value} {w' : World} (hv : EvF f P w' 54 (.agg #[sa, sb])) (last : Bool) (hs0 : w'.cell? ⟨bs, 0, none⟩ = some sa) (hs1 : w'.cell? ⟨bs, 1, none⟩ = some sb) (hsl : ∃ a n c a2 n2 c2, sa = .slice a n c ∧ sb = .slice a2 n2 c2) {Q : Nat → Prop} {x : Pg × Tg} (hP : P x) {cs : List Value} (hx : eG.E Q w' x cs) :
    Calls Tryz.prog 53 #[.bool last, .agg cs.toArray, .pointer (some ⟨bs, 0, none⟩)] w' fun en w'' => en = .returned (.tuple #[.bool (decide ((f x).1.2.1 = 1)), .int .i64 (f x).2]) ∧ Below w'.heap.size w' w'' := by
  obtain ⟨hcf, hN⟩ := hv
  obtain ⟨a, n, c, a2, n2, c2, rfl, rfl⟩ := hsl
  have hEx' := hx
  obtain ⟨ea, en, ec, rfl, -⟩ := hEx'
  simp only [exC] at *
  have HX := hN x Q [.int .i64 x.1.1, .int .i64 x.1.2.1, .int .i64 x.1.2.2.1, .string x.1.2.2.2.1, .string x.1.2.2.2.2.1, .string x.1.2.2.2.2.2, .slice ea en ec] (w'.alloc (.cells #[.int .i64 x.1.1, .int .i64 x.1.2.1, .int .i64 x.1.2.2.1, .string x.1.2.2.2.1, .string x.1.2.2.2.2.1, .string x.1.2.2.2.2.2, .slice ea en ec] 42)) hP (bal (Below.refl _ _) _) (eG.keep (fun b _ hl => (bal (Below.refl _ _) _).block b hl) hx)
  have bx := Bk.new w' (.cells #[.int .i64 x.1.1, .int .i64 x.1.2.1, .int .i64 x.1.2.2.1, .string x.1.2.2.2.1, .string x.1.2.2.2.2.1, .string x.1.2.2.2.2.2, .slice ea en ec] 42)
  have hb1 := bal (Below.refl w'.heap.size w') (.cells #[.int .i64 x.1.1, .int .i64 x.1.2.1, .int .i64 x.1.2.2.1, .string x.1.2.2.2.1, .string x.1.2.2.2.2.1, .string x.1.2.2.2.2.2, .slice ea en ec] 42)
  replace hs0 := cell_later hb1 hs0
  replace hs1 := cell_later hb1 hs1
  clear hN hx hP
  generalize f x = R at *
  replace HX : Hid _ := hid HX
  go_enter Tryz.func53, Tryz.ntmps53
  go_upto_region 1 with fail
  generalize w'.alloc (.cells #[.int .i64 x.1.1, .int .i64 x.1.2.1, .int .i64 x.1.2.2.1, .string x.1.2.2.2.1, .string x.1.2.2.2.2.1, .string x.1.2.2.2.2.2, .slice ea en ec] 42) = W at *
  have d0 := bx.cell 0
  have d1 := bx.cell 1
  have d2 := bx.cell 2
  have d3 := bx.cell 3
  have d4 := bx.cell 4
  have d5 := bx.cell 5
  have d6 := bx.cell 6
  simp only [List.getElem?_toArray, List.getElem?_cons_zero, List.getElem?_cons_succ] at d0 d1 d2 d3 d4 d5 d6
  clear bx
  go_wp2_with fail
  refine Calls.mono HX.out ?_
  rintro e w4 ⟨rfl, hb4⟩
  have hB4 := Below.on hb1 hb4
  have hB5 := bal hB4 (.cells #[.int .i64 R.1.1, .int .i64 R.1.2.1, .string R.1.2.2] 39)
  have by0 := Bk.new w4 (.cells #[.int .i64 R.1.1, .int .i64 R.1.2.1, .string R.1.2.2] 39)
  clear HX hcf d0 d1 d2 d3 d4 d5 d6 hb1 hb4 hB4 hs0 hs1
  go_upto_region 2 with fail
  generalize w4.alloc (.cells #[.int .i64 R.1.1, .int .i64 R.1.2.1, .string R.1.2.2] 39) = W5 at *
  have y1 := by0.cell 1
  simp only [List.getElem?_toArray, List.getElem?_cons_zero, List.getElem?_cons_succ] at y1
  obtain ⟨D, hD⟩ : ∃ D, decide (R.1.2.1 = 1) = D := ⟨_, rfl⟩
  have hD2 : (R.1.2.1 == 1) = D := by rw [← hD]; rfl
  have HD : Hid _ := hid hD
  clear by0
  go_wp2
  exact bodyPost_ret (v := .tuple #[.bool D, .int .i64 R.2]) (by simp [results, Tryz.results53]) rfl ⟨by rw [HD.out], hB5⟩

/-- What Holds tells. -/
def hoE (C : List It) (V : List Vt) (x : Pg × Tg) : Bool × Int := (decide ((evT C V x).2 = 0) && decide ((evT C V x).1.2.1 = 1), (evT C V x).2)
set_option maxRecDepth 100000 in
set_option maxHeartbeats 4000000 in
theorem holdsV_any {C : List It} {V : List Vt} (hlen : C.length ≤ 500) (hCV : C.length = V.length) (hVf : ∀ v ∈ V, Fits v.2.1) (x : Pg × Tg) (hft : ftT x) {Q : Nat → Prop} {w : World} {a : Option Addr} {n c : Nat} {a2 : Option Addr} {n2 c2 : Nat} (hC : RowIs eItem (fun _ => True) w (.slice a n c) C) (hV : RowIs eVal (fun _ => True) w (.slice a2 n2 c2) V) {ao : Option Addr} {m d : Nat} (h : RowIs eG Q w (.slice ao m d) [x]) :
    Calls Tryz.prog 29 #[.slice a n c, .slice a2 n2 c2, .slice ao m d] w fun en w' => en = .returned (.tuple #[.bool (hoE C V x).1, .int .i64 (hoE C V x).2]) ∧ Below w.heap.size w w' := by
  obtain ⟨l1, l2, l3⟩ := row_lens hC
  obtain ⟨m1, m2, m3⟩ := row_lens hV
  obtain ⟨k1, k2, k3⟩ := row_lens h
  obtain rfl : n2 = n := by omega
  obtain rfl : m = 1 := by simpa using k1.symm
  have HPr : Hid _ := hid (pairedV_any (a := a) (n := n2) (c := c) (a2 := a2) (c2 := c2) l2 m2 l3 m3)
  have HF : Hid (∀ W bs, Below w.heap.size w W → W.cell? ⟨bs, 0, none⟩ = some (.slice a n2 c) → W.cell? ⟨bs, 1, none⟩ = some (.slice a2 n2 c2) → Calls Tryz.prog 52 #[.slice ao 1 d, .bool true, .func (.func 53) #[] #[.pointer (some ⟨bs, 0, none⟩)]] W fun en w' => en = .returned (.tuple #[.bool (hoE C V x).1, .int .i64 (hoE C V x).2]) ∧ Below W.heap.size W w') := hid fun W bs hw s0 s1 => by
    have hv : EvF (evT C V) (fun y => y = x) W 54 (.agg #[.slice a n2 c, .slice a2 n2 c2]) := ⟨fun args w2 => by rfl, fun y Q2 cs2 w2 hy hb2 hx2 => by subst hy; exact ev_any hlen hCV hVf y hft Q2 w2 cs2 a n2 c a2 n2 c2 (hC.keep (by decide) fun b _ hl => (Below.on hw hb2).block b hl) (hV.keep (by decide) fun b _ hl => (Below.on hw hb2).block b hl) hx2⟩
    have hr : RowIs eG (fun b => b < W.heap.size) W (.slice ao 1 d) [x] := (h.keep (by decide) fun b _ hl => hw.block b hl).mono (by decide) fun b _ hl => hl
    have := foldVExbo (l := [x]) (B := W.heap.size) (by simp) (Nat.le_refl _) (fun b hq => hq) hr (caps := #[.pointer (some ⟨bs, 0, none⟩)]) (N := 53) (fun args w' => by rfl) (fun _ => (evT C V x).2) (fun i w' k => Below W.heap.size W w' ∧ (i = 1 → k = decide ((evT C V x).1.2.1 = 1)))
      (fun i w' k hI => hI.1) (fun i w' k o hI => ⟨bal hI.1 o, hI.2⟩) (a0 := true) ⟨Below.refl _ _, fun h => absurd h (by decide)⟩
      (fun i hi w' k cs hI hE => by
        have hi' : i < 1 := hi
        obtain rfl : i = 0 := by omega
        refine Calls.mono (holds1_any (hv.later hI.1) k (cell_later hI.1 s0) (cell_later hI.1 s1) ⟨_, _, _, _, _, _, rfl, rfl⟩ rfl hE) ?_
        rintro en w3 ⟨rfl, hb3⟩
        exact ⟨_, rfl, Below.on hI.1 hb3, fun _ => ⟨Below.on hI.1 hb3, fun _ => rfl⟩⟩)
    refine Calls.mono this ?_
    rintro en w3 ⟨k, rfl, hb3, g1, g2⟩
    have eE : erO (fun _ => (evT C V x).2) [x].length = (evT C V x).2 := by
      show erL [(evT C V x).2] = (evT C V x).2
      unfold erL erL
      split
      · exact Eq.symm (by assumption)
      · rfl
    rw [eE] at g1 g2 ⊢
    refine ⟨?_, hb3⟩
    unfold hoE
    by_cases h0 : (evT C V x).2 = 0
    · rw [(g1 h0).2 rfl, h0]; simp
    · rw [g2 h0]; simp [h0]
  generalize hoE C V x = R at *
  clear hC hV h hft hVf hCV hlen
  go_enter Tryz.func29, Tryz.ntmps29
  go_wp2_with fail
  refine Calls.mono (HPr.out _) ?_
  rintro e w4 ⟨rfl, hb4⟩
  have hB5 := bal hb4 (.cells #[.slice a n2 c, .slice a2 n2 c2] 113)
  have by0 := Bk.new w4 (.cells #[.slice a n2 c, .slice a2 n2 c2] 113)
  clear HPr hb4
  go_upto_region 4 with fail
  generalize w4.alloc (.cells #[.slice a n2 c, .slice a2 n2 c2] 113) = W5 at *
  have y0 := by0.cell 0
  have y1 := by0.cell 1
  simp only [List.getElem?_toArray, List.getElem?_cons_zero, List.getElem?_cons_succ] at y0 y1
  have HF2 : Hid _ := hid (HF.out W5 _ hB5 y0 y1)
  clear by0 HF
  go_wp2_with fail
  refine Calls.mono HF2.out ?_
  rintro e w6 ⟨rfl, hb6⟩
  have hB6 := Below.on hB5 hb6
  clear HF2 hb6 hB5
  go_wp2
  exact bodyPost_ret (v := .tuple #[.bool R.1, .int .i64 R.2]) (by simp [results, Tryz.results29]) rfl ⟨rfl, hB6⟩
end Go.Proofs.YtnlaaejdianfjabGreat
namespace Go.Proofs.YtnlaaejdianfjabGreat
open Go.RowKit
set_option linter.unusedVariables false
set_option linter.unusedSimpArgs false

end Go.Proofs.YtnlaaejdianfjabGreat
namespace Go.Proofs.YtnlaaejdianfjabGreat
open Go.RowKit
set_option linter.unusedVariables false
set_option linter.unusedSimpArgs false

end Go.Proofs.YtnlaaejdianfjabGreat
namespace Go.Proofs.YtnlaaejdianfjabGreat
open Go.RowKit
set_option linter.unusedVariables false
set_option linter.unusedSimpArgs false

end Go.Proofs.YtnlaaejdianfjabGreat
namespace Go.Proofs.YtnlaaejdianfjabGreat
open Go.RowKit
set_option linter.unusedVariables false
set_option linter.unusedSimpArgs false

end Go.Proofs.YtnlaaejdianfjabGreat
namespace Go.Proofs.YtnlaaejdianfjabGreat
open Go.RowKit
set_option linter.unusedVariables false
set_option linter.unusedSimpArgs false

end Go.Proofs.YtnlaaejdianfjabGreat
namespace Go.Proofs.YtnlaaejdianfjabGreat
open Go.RowKit
set_option linter.unusedVariables false
set_option linter.unusedSimpArgs false

end Go.Proofs.YtnlaaejdianfjabGreat
namespace Go.Proofs.YtnlaaejdianfjabGreat
open Go.RowKit
set_option linter.unusedVariables false
set_option linter.unusedSimpArgs false

end Go.Proofs.YtnlaaejdianfjabGreat
namespace Go.Proofs.YtnlaaejdianfjabGreat
open Go.RowKit
set_option linter.unusedVariables false
set_option linter.unusedSimpArgs false

end Go.Proofs.YtnlaaejdianfjabGreat
namespace Go.Proofs.YtnlaaejdianfjabGreat
open Go.RowKit
set_option linter.unusedVariables false
set_option linter.unusedSimpArgs false

end Go.Proofs.YtnlaaejdianfjabGreat
namespace Go.Proofs.YtnlaaejdianfjabGreat
open Go.RowKit
set_option linter.unusedVariables false
set_option linter.unusedSimpArgs false

end Go.Proofs.YtnlaaejdianfjabGreat
namespace Go.Proofs.YtnlaaejdianfjabGreat
open Go.RowKit
set_option linter.unusedVariables false
set_option linter.unusedSimpArgs false

end Go.Proofs.YtnlaaejdianfjabGreat
namespace Go.Proofs.YtnlaaejdianfjabGreat
open Go.RowKit
set_option linter.unusedVariables false
set_option linter.unusedSimpArgs false

end Go.Proofs.YtnlaaejdianfjabGreat
namespace Go.Proofs.YtnlaaejdianfjabGreat
open Go.RowKit
set_option linter.unusedVariables false
set_option linter.unusedSimpArgs false

end Go.Proofs.YtnlaaejdianfjabGreat
namespace Go.Proofs.YtnlaaejdianfjabGreat
open Go.RowKit
set_option linter.unusedVariables false
set_option linter.unusedSimpArgs false

end Go.Proofs.YtnlaaejdianfjabGreat
namespace Go.Proofs.YtnlaaejdianfjabGreat
open Go.RowKit
set_option linter.unusedVariables false
set_option linter.unusedSimpArgs false

end Go.Proofs.YtnlaaejdianfjabGreat
namespace Go.Proofs.YtnlaaejdianfjabGreat
open Go.RowKit
set_option linter.unusedVariables false
set_option linter.unusedSimpArgs false

end Go.Proofs.YtnlaaejdianfjabGreat
namespace Go.Proofs.YtnlaaejdianfjabGreat
open Go.RowKit
set_option linter.unusedVariables false

abbrev zE2 : Obj := .cells #[.int .i64 0, .int .i64 0, .int .i64 0, .string ⟨#[]⟩, .string ⟨#[]⟩, .string ⟨#[]⟩, .slice none 0 0] 42

end Go.Proofs.YtnlaaejdianfjabGreat
namespace Go.Proofs.YtnlaaejdianfjabGreat
open Go.RowKit
set_option linter.unusedVariables false

end Go.Proofs.YtnlaaejdianfjabGreat
