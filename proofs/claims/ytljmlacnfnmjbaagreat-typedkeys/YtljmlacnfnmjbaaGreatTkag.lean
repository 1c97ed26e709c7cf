import Derived.Test.YtljmlacnfnmjbaaGreatTkaf
import Derived.Deep.RegionHeld3
namespace Go.Proofs.YtljmlacnfnmjbaaGreat
open Go.RowKit
set_option linter.unusedVariables false
set_option linter.unusedSimpArgs false

theorem wayA_few {op : Int} {v : Int × List Int × Int} (h : wayA op = some v) : v.1 ≤ 2 := by
  unfold wayA at h
  by_cases h1 : op = 1
  · rw [if_pos h1] at h; injection h with h; rw [← h]; decide
  rw [if_neg h1] at h
  by_cases h2 : op = 2
  · rw [if_pos h2] at h; injection h with h; rw [← h]; decide
  rw [if_neg h2] at h
  by_cases h3 : op = 3
  · rw [if_pos h3] at h; injection h with h; rw [← h]; decide
  rw [if_neg h3] at h
  by_cases h4 : op = 4
  · rw [if_pos h4] at h; injection h with h; rw [← h]; decide
  rw [if_neg h4] at h
  by_cases h5 : op = 5
  · rw [if_pos h5] at h; injection h with h; rw [← h]; decide
  rw [if_neg h5] at h
  by_cases h6 : op = 6
  · rw [if_pos h6] at h; injection h with h; rw [← h]; decide
  rw [if_neg h6] at h
  by_cases h7 : op = 7
  · rw [if_pos h7] at h; injection h with h; rw [← h]; decide
  rw [if_neg h7] at h
  by_cases h8 : op = 8
  · rw [if_pos h8] at h; injection h with h; rw [← h]; decide
  rw [if_neg h8] at h
  by_cases h9 : op = 9
  · rw [if_pos h9] at h; injection h with h; rw [← h]; decide
  rw [if_neg h9] at h
  by_cases h10 : op = 10
  · rw [if_pos h10] at h; injection h with h; rw [← h]; decide
  rw [if_neg h10] at h
  by_cases h11 : op = 11
  · rw [if_pos h11] at h; injection h with h; rw [← h]; decide
  rw [if_neg h11] at h
  by_cases h12 : op = 12
  · rw [if_pos h12] at h; injection h with h; rw [← h]; decide
  rw [if_neg h12] at h
  by_cases h13 : op = 13
  · rw [if_pos h13] at h; injection h with h; rw [← h]; decide
  rw [if_neg h13] at h
  by_cases h14 : op = 14
  · rw [if_pos h14] at h; injection h with h; rw [← h]; decide
  rw [if_neg h14] at h
  by_cases h15 : op = 15
  · rw [if_pos h15] at h; injection h with h; rw [← h]; decide
  rw [if_neg h15] at h
  cases h
/-- What kind tells of an expression. -/
def KindC (S : List Cl3) (x : Pg × Tg) : Prop := ∀ (Q : Nat → Prop) (w : World) (cs : List Value) (a : Option Addr) (n c : Nat), RowIs eClm (fun _ => True) w (.slice a n c) S → eG.E Q w x cs → Calls Tryz.prog 26 #[.slice a n c, .agg cs.toArray] w fun en w' => en = .returned (.tuple #[.int .i64 (kdT S x).1, .int .i64 (kdT S x).2]) ∧ Below w.heap.size w w'
theorem kdT_none {S : List Cl3} {x : Pg × Tg} (h : wayA x.1.1 = none) : kdT S x = (0, 1) := by unfold kdT kd1; rw [h]
theorem kds_len (S : List Cl3) (f : Tg) : (kds S f).length = (toL f).length := by rw [kds_map, List.length_map]
theorem kdT_len {S : List Cl3} {x : Pg × Tg} {v : Int × List Int × Int} (h : wayA x.1.1 = some v) (hn : ((toL x.2).length : Int) ≠ v.1) : kdT S x = (0, 1) := by
  unfold kdT kd1; rw [h]
  show (if ((kds S x.2).length : Int) ≠ v.1 then _ else _) = _
  rw [if_pos (by rw [kds_len]; exact hn)]
theorem kdT_lit {S : List Cl3} {x : Pg × Tg} {v : Int × List Int × Int} (h : wayA x.1.1 = some v) (hn : ((toL x.2).length : Int) = v.1) (h1 : x.1.1 = 1) : kdT S x = (x.1.2.1, 0) := by
  unfold kdT kd1; rw [h]
  show (if ((kds S x.2).length : Int) ≠ v.1 then _ else _) = _
  rw [if_neg (by rw [kds_len]; simpa using hn), if_pos h1]
theorem kdT_col {S : List Cl3} {x : Pg × Tg} {v : Int × List Int × Int} (h : wayA x.1.1 = some v) (hn : ((toL x.2).length : Int) = v.1) (h1 : x.1.1 ≠ 1) (h2 : x.1.1 = 2) : kdT S x = clmK S x.1.2.2.2.2.1 x.1.2.2.2.2.2 := by
  unfold kdT kd1; rw [h]
  show (if ((kds S x.2).length : Int) ≠ v.1 then _ else _) = _
  rw [if_neg (by rw [kds_len]; simpa using hn), if_neg h1, if_pos h2]
theorem kds_snd (S : List Cl3) (f : Tg) : (kds S f).map (·.2) = (toL f).map fun x => (kdT S x).2 := by rw [kds_map, List.map_map]; rfl
theorem kds_fst (S : List Cl3) (f : Tg) : (kds S f).map (·.1) = (toL f).map fun x => (kdT S x).1 := by rw [kds_map, List.map_map]; rfl
theorem kdT_err {S : List Cl3} {x : Pg × Tg} {v : Int × List Int × Int} (h : wayA x.1.1 = some v) (hn : ((toL x.2).length : Int) = v.1) (h1 : x.1.1 ≠ 1) (h2 : x.1.1 ≠ 2) (he : erL ((toL x.2).map fun x => (kdT S x).2) ≠ 0) : kdT S x = (0, erL ((toL x.2).map fun x => (kdT S x).2)) := by
  rw [kdT, kd1, h]
  show (if ((kds S x.2).length : Int) ≠ v.1 then _ else _) = _
  rw [if_neg (by rw [kds_len]; simpa using hn), if_neg h1, if_neg h2, kds_snd, if_pos he]
theorem kdT_ok {S : List Cl3} {x : Pg × Tg} {v : Int × List Int × Int} (h : wayA x.1.1 = some v) (hn : ((toL x.2).length : Int) = v.1) (h1 : x.1.1 ≠ 1) (h2 : x.1.1 ≠ 2) (he : erL ((toL x.2).map fun x => (kdT S x).2) = 0) : kdT S x = if takesP v.2.1 ((toL x.2).map fun x => (kdT S x).1) then (v.2.2, 0) else (0, 11) := by
  rw [kdT, kd1, h]
  show (if ((kds S x.2).length : Int) ≠ v.1 then _ else _) = _
  rw [if_neg (by rw [kds_len]; simpa using hn), if_neg h1, if_neg h2, kds_snd, if_neg (by simpa using he), kds_fst]

set_option maxRecDepth 100000 in
set_option maxHeartbeats 4000000 in
theorem kind_step {S : List Cl3} (hS : S.length ≤ 500) (x : Pg × Tg) (ih : ∀ y ∈ toL x.2, KindC S y) : KindC S x := by
  intro Q w cs a n c hR hx
  have hEx' := hx
  obtain ⟨ea, en, ec, rfl, hsl⟩ := hEx'
  have hlen := hsl.1
  have hec := hsl.2.1
  have hecm := hsl.2.2.1
  simp only [exC] at *
  have hw := bal (Below.refl w.heap.size w) (.cells #[.int .i64 x.1.1, .int .i64 x.1.2.1, .int .i64 x.1.2.2.1, .string x.1.2.2.2.1, .string x.1.2.2.2.2.1, .string x.1.2.2.2.2.2, .slice ea en ec] 28)
  have bx := Bk.new w (.cells #[.int .i64 x.1.1, .int .i64 x.1.2.1, .int .i64 x.1.2.2.1, .string x.1.2.2.2.1, .string x.1.2.2.2.2.1, .string x.1.2.2.2.2.2, .slice ea en ec] 28)
  generalize hW : w.alloc (.cells #[.int .i64 x.1.1, .int .i64 x.1.2.1, .int .i64 x.1.2.2.1, .string x.1.2.2.2.1, .string x.1.2.2.2.2.1, .string x.1.2.2.2.2.2, .slice ea en ec] 28) = W at hw bx
  have d0 := bx.cell 0
  have d1 := bx.cell 1
  have d4 := bx.cell 4
  have d5 := bx.cell 5
  have d6 := bx.cell 6
  simp only [List.getElem?_toArray, List.getElem?_cons_zero, List.getElem?_cons_succ] at d0 d1 d4 d5 d6
  have HC : Hid (∀ w', Below W.heap.size W w' → RowIs eClm (fun _ => True) w' (.slice a n c) S) := hid fun w' hb => hR.keep (by decide) fun b _ hl => (Below.on hw hb).block b hl
  have HA : Hid (∀ w', Below W.heap.size W w' → RowIs eG Q w' (.slice ea en ec) (toL x.2)) := hid fun w' hb => hsl.row.keep (by decide) fun b _ hl => (Below.on hw hb).block b hl
  have HWy : Hid _ := hid (wayOf_any x.1.1 W)
  have HIH : Hid _ := hid ih
  have H1 : Hid (wayA x.1.1 = none → kdT S x = (0, 1)) := hid kdT_none
  have H2 : Hid (∀ v, wayA x.1.1 = some v → ((toL x.2).length : Int) ≠ v.1 → kdT S x = (0, 1)) := hid fun v => kdT_len
  have H3 : Hid (∀ v, wayA x.1.1 = some v → ((toL x.2).length : Int) = v.1 → x.1.1 = 1 → kdT S x = (x.1.2.1, 0)) := hid fun v => kdT_lit
  have H4 : Hid (∀ v, wayA x.1.1 = some v → ((toL x.2).length : Int) = v.1 → x.1.1 ≠ 1 → x.1.1 = 2 → kdT S x = clmK S x.1.2.2.2.2.1 x.1.2.2.2.2.2) := hid fun v => kdT_col
  have H5 : Hid (∀ v, wayA x.1.1 = some v → ((toL x.2).length : Int) = v.1 → x.1.1 ≠ 1 → x.1.1 ≠ 2 → erL ((toL x.2).map fun x => (kdT S x).2) ≠ 0 → kdT S x = (0, erL ((toL x.2).map fun x => (kdT S x).2))) := hid fun v => kdT_err
  have H6 : Hid (∀ v, wayA x.1.1 = some v → ((toL x.2).length : Int) = v.1 → x.1.1 ≠ 1 → x.1.1 ≠ 2 → erL ((toL x.2).map fun x => (kdT S x).2) = 0 → kdT S x = if takesP v.2.1 ((toL x.2).map fun x => (kdT S x).1) then (v.2.2, 0) else (0, 11)) := hid fun v => kdT_ok
  clear hx hsl hR ih bx
  obtain ⟨K, hK⟩ : ∃ K, kdT S x = K := ⟨_, rfl⟩
  rw [hK] at H1 H2 H3 H4 H5 H6 ⊢
  have HEa : Hid _ := hid fun (hl : (toL x.2).length ≤ 500) w' (hb : Below W.heap.size W w') => eachEx hl (f := kdT S) (P := fun y => y ∈ toL x.2) (HA.out w' hb) (N := 26) (r := .slice a n c) ⟨fun args w2 => by rfl, fun y Q2 cs2 w2 hy hb2 hx2 => HIH.out y hy Q2 w2 cs2 a n c (HC.out w2 (Below.on hb hb2)) hx2⟩ (fun y hy => hy)
  have HCl : Hid (∀ w', Below W.heap.size W w' → _) := hid fun w' hb => columnK_any hS x.1.2.2.2.2.1 x.1.2.2.2.2.2 (HC.out w' hb)
  clear hK HIH HC
  obtain ⟨⟨op, k1, k2, k3, k4, k5⟩, f⟩ := x
  dsimp only at *
  generalize erL ((toL f).map fun x => (kdT S x).2) = E at *
  obtain ⟨L, hL⟩ : ∃ L, (toL f).map (fun x => (kdT S x).1) = L := ⟨_, rfl⟩
  rw [hL] at HEa H6
  have hLl : (toL f).length ≤ 500 → L.length ≤ 500 := fun hl => by rw [← hL, List.length_map]; exact hl
  clear hL
  generalize clmK S k4 k5 = CK at *
  generalize (toL f).length = fl at *
  subst hlen
  clear HA
  go_enter Tryz.func26, Tryz.ntmps26
  go_wp2_with fail
  refine Calls.mono HWy.out ?_
  rintro e w1 ⟨u, ao, m, d, v, is, rfl, hb1, hr⟩
  replace d0 := cell_later hb1 d0
  replace d1 := cell_later hb1 d1
  replace d4 := cell_later hb1 d4
  replace d5 := cell_later hb1 d5
  replace d6 := cell_later hb1 d6
  clear HWy
  rcases hr with ⟨hn, rfl, hmd, hdm⟩ | ⟨F, hs, rfl, hF, hrow⟩
  · have hK := H1.out hn
    subst hK
    clear H1 H2 H3 H4 H5 H6 HEa HCl hn
    go_wp2
    exact bodyPost_ret (v := .tuple #[.int .i64 0, .int .i64 1]) (by simp [results, Tryz.results26]) rfl ⟨rfl, bal (Below.on hw hb1) _⟩
  · have hb2 := bal (Below.refl w1.heap.size w1) (.cells #[.int .i64 u, .slice ao m d, .int .i64 v] 103)
    have hB2 := Below.on hb1 hb2
    have b2 := Bk.new w1 (.cells #[.int .i64 u, .slice ao m d, .int .i64 v] 103)
    have hrow2 : RowIs eInt (fun _ => True) (w1.alloc (.cells #[.int .i64 u, .slice ao m d, .int .i64 v] 103)) (.slice ao m d) F := hrow.keep (by decide) fun b _ hl => hb2.block b hl
    replace d0 := cell_later hb2 d0
    replace d1 := cell_later hb2 d1
    replace d4 := cell_later hb2 d4
    replace d5 := cell_later hb2 d5
    replace d6 := cell_later hb2 d6
    clear hrow hb1
    go_upto_region 2 with fail
    generalize w1.alloc (.cells #[.int .i64 u, .slice ao m d, .int .i64 v] 103) = W2 at *
    have e0 := b2.cell 0
    have e1 := b2.cell 1
    have e2 := b2.cell 2
    simp only [List.getElem?_toArray, List.getElem?_cons_zero, List.getElem?_cons_succ] at e0 e1 e2
    generalize w1.heap.size = q2 at *
    clear b2 hb2
    by_cases hn : (fl : Int) = u
    · have hl : fl ≤ 500 := by have := wayA_few hs; dsimp only at this; omega
      subst hn
      by_cases h1 : op = 1
      · have hK := H3.out _ hs rfl h1
        subst hK
        subst h1
        clear H1 H2 H3 H4 H5 H6 HEa HCl hs
        go_wp2
        exact bodyPost_ret (v := .tuple #[.int .i64 k1, .int .i64 0]) (by simp [results, Tryz.results26]) rfl ⟨rfl, Below.on hw hB2⟩
      · have g1 : decide (op = 1) = false := by simpa using h1
        by_cases h2 : op = 2
        · have hK := H4.out _ hs rfl h1 h2
          subst hK
          subst h2
          have HC2 : Hid _ := hid (HCl.out _ hB2)
          clear H1 H2 H3 H4 H5 H6 HEa HCl hs h1 g1
          go_wp2_with fail
          refine Calls.mono HC2.out ?_
          rintro e w3 ⟨rfl, hb3⟩
          clear HC2
          go_wp2
          exact bodyPost_ret (v := .tuple #[.int .i64 K.1, .int .i64 K.2]) (by simp [results, Tryz.results26]) rfl ⟨rfl, Below.on hw (Below.on hB2 hb3)⟩
        · have g2 : decide (op = 2) = false := by simpa using h2
          have HE2 : Hid _ := hid (HEa.out hl _ hB2)
          have H5' : Hid _ := hid (H5.out _ hs rfl h1 h2)
          have H6' : Hid _ := hid (H6.out _ hs rfl h1 h2)
          clear H1 H2 H3 H4 H5 H6 HEa HCl hs
          go_wp2_with fail
          refine Calls.mono HE2.out ?_
          rintro e w3 ⟨a3, m3, c3, rfl, hb3, hr3⟩
          have HR3 : Hid _ := hid hr3
          clear HE2 hr3
          by_cases he : E = 0
          · subst he
            have hr4 : RowIs eInt (fun _ => True) w3 (.slice a3 m3 c3) L := HR3.out (by first | rfl | trivial)
            have HT : Hid _ := hid (takes_any (hLl hl) (Nat.le_trans hF (by decide)) hr4 fl v (hrow2.keep (by decide) fun b _ hl => hb3.block b hl))
            replace e0 := cell_later hb3 e0
            replace e1 := cell_later hb3 e1
            replace e2 := cell_later hb3 e2
            have hK := H6'.out (by first | rfl | trivial)
            clear HR3 H5' H6' hr4 hrow2
            cases ht : takesP F L with
            | true =>
              rw [ht] at HT hK
              rw [if_pos rfl] at hK
              subst hK
              go_wp2_with fail
              refine Calls.mono HT.out ?_
              rintro e w4 ⟨rfl, hb4⟩
              replace e2 := cell_later hb4 e2
              go_wp2
              exact bodyPost_ret (v := .tuple #[.int .i64 v, .int .i64 0]) (by simp [results, Tryz.results26]) rfl ⟨rfl, Below.on hw (Below.on hB2 (Below.on hb3 hb4))⟩
            | false =>
              rw [ht] at HT hK
              rw [if_neg (by simp)] at hK
              subst hK
              go_wp2_with fail
              refine Calls.mono HT.out ?_
              rintro e w4 ⟨rfl, hb4⟩
              go_wp2
              exact bodyPost_ret (v := .tuple #[.int .i64 0, .int .i64 11]) (by simp [results, Tryz.results26]) rfl ⟨rfl, Below.on hw (Below.on hB2 (Below.on hb3 hb4))⟩
          · have hK := H5'.out he
            subst hK
            have ge : decide (E = 0) = false := by simpa using he
            have gn : (E != 0) = true := by simpa using he
            clear HR3 H5' H6' hrow2
            go_wp2
            exact bodyPost_ret (v := .tuple #[.int .i64 0, .int .i64 E]) (by simp [results, Tryz.results26]) rfl ⟨rfl, Below.on hw (Below.on hB2 hb3)⟩
    · have hK := H2.out _ hs hn
      subst hK
      have gn : ((fl : Int) != u) = true := by simpa using hn
      have gd : decide ((fl : Int) = u) = false := by simpa using hn
      clear H1 H2 H3 H4 H5 H6 HEa HCl hs
      go_wp2
      exact bodyPost_ret (v := .tuple #[.int .i64 0, .int .i64 1]) (by simp [results, Tryz.results26]) rfl ⟨rfl, Below.on hw hB2⟩
theorem kind_all {S : List Cl3} (hS : S.length ≤ 500) : ∀ f : Tg, ∀ x ∈ toL f, KindC S x := by
  intro f
  induction f with
  | nil => intro x hx; simp [toL] at hx
  | node a b p l r ihl ihr =>
    intro x hx
    rw [toL, List.mem_cons] at hx
    rcases hx with rfl | hx
    · exact kind_step hS (p, l) ihl
    · exact ihr x hx
theorem kind_any {S : List Cl3} (hS : S.length ≤ 500) (x : Pg × Tg) : KindC S x := kind_step hS x (kind_all hS x.2)

end Go.Proofs.YtljmlacnfnmjbaaGreat
namespace Go.Proofs.YtljmlacnfnmjbaaGreat
open Go.RowKit
set_option linter.unusedVariables false
set_option linter.unusedSimpArgs false

def fitsP (S : List Cl3) (x : Pg × Tg) (k : Int) : Int := if (kdT S x).2 = 0 ∧ (kdT S x).1 ≠ k then 11 else (kdT S x).2
def whP (S : List Cl3) (l : List (Pg × Tg)) : Int := erL (l.map fun x => fitsP S x 3)
def orderKP (S : List Cl3) (l : List (Pg × Tg)) : Int := erL (l.map fun x => (kdT S x).2)
def onCP (S : List Cl3) (l : List (Pg × Tg)) : Int := if orderKP S l = 0 ∧ alikeP (l.map fun x => (kdT S x).1) = false then 11 else orderKP S l
def itmP (S : List Cl3) (t : It) : Int :=
  if t.1 = 1 then (if t.2.2 = ⟨#[]⟩ then 0 else 1)
  else if t.1 = 0 ∨ t.1 = 2 ∨ t.1 = 3 ∨ t.1 = 4 then (if (clmK S t.2.1 t.2.2).2 = 0 ∧ t.1 = 2 ∧ (clmK S t.2.1 t.2.2).1 = 2 then 11 else (clmK S t.2.1 t.2.2).2) else 1
def foldP (t : It) : Bool := t.1 != 0
def itmsP (S : List Cl3) (l : List It) (o : Nat) : Int :=
  if erL (l.map (itmP S)) ≠ 0 then erL (l.map (itmP S))
  else if 0 < (l.filter foldP).length ∧ ((l.filter foldP).length < l.length ∨ 0 < o) then 11 else 0
def colP1 (x : Pg × Tg) : Bool := decide (x.1.1 = 2) && decide ((toL x.2).length = 0)

set_option maxRecDepth 100000 in
set_option maxHeartbeats 4000000 in
theorem isColT_any (x : Pg × Tg) {Q : Nat → Prop} {w : World} {cs : List Value} (hx : eG.E Q w x cs) : Calls Tryz.prog 57 #[.agg cs.toArray] w fun en w' => en = .returned (.bool (colP1 x)) ∧ Below w.heap.size w w' := by
  obtain ⟨ea, en, ec, rfl, hn, h1, h2, -⟩ := hx
  simp only [exC]
  have hw := bal (Below.refl w.heap.size w) (.cells #[.int .i64 x.1.1, .int .i64 x.1.2.1, .int .i64 x.1.2.2.1, .string x.1.2.2.2.1, .string x.1.2.2.2.2.1, .string x.1.2.2.2.2.2, .slice ea en ec] 28)
  have HT : Hid (colP1 x = (decide (x.1.1 = 2) && decide ((toL x.2).length = 0))) := hid rfl
  generalize colP1 x = T at *
  obtain ⟨⟨op, k1, k2, k3, k4, k5⟩, f⟩ := x
  dsimp only at *
  subst hn
  by_cases h : op = 2
  · subst h
    have HT2 : Hid (T = decide ((toL f).length = 0)) := hid (by rw [HT.out]; simp)
    clear HT
    go_enter Tryz.func57, Tryz.ntmps57
    go_wp2
    go_ret
    refine ⟨ret_bool ?_, hw⟩
    rw [HT2.out, Bool.eq_iff_iff]
    simp
  · have HT2 : Hid (T = false) := hid (by rw [HT.out]; simp [h])
    have g : decide (op = 2) = false := by simpa using h
    clear HT
    go_enter Tryz.func57, Tryz.ntmps57
    go_wp2
    go_ret
    exact ⟨ret_bool HT2.out.symm, hw⟩
set_option maxRecDepth 100000 in
theorem isColT_such (w : World) : SuchZ eG colP1 w (.func (.func 57) #[] #[]) :=
  ⟨57, #[], rfl, fun args w' => by rfl, fun x Q cs w' _ hx => isColT_any x hx⟩
set_option maxRecDepth 100000 in
set_option maxHeartbeats 4000000 in
theorem isFolded_any (x : It) (w : World) : Calls Tryz.prog 92 #[.agg #[.int .i64 x.1, .string x.2.1, .string x.2.2]] w fun en w' => en = .returned (.bool (foldP x)) ∧ Below w.heap.size w w' := by
  obtain ⟨a, b, c⟩ := x
  have hw := bal (Below.refl w.heap.size w) (.cells #[.int .i64 a, .string b, .string c] 66)
  go_enter Tryz.func92, Tryz.ntmps92
  go_wp2
  go_ret
  refine ⟨ret_bool ?_, hw⟩
  first | rfl | (unfold foldP; rw [Bool.eq_iff_iff]; simp)
set_option maxRecDepth 100000 in
theorem isFolded_such (w : World) : SuchZ eItem foldP w (.func (.func 92) #[] #[]) :=
  ⟨92, #[], rfl, fun args w' => by rfl, fun x Q cs w' _ hx => by
    have hx' : cs = [.int .i64 x.1, .string x.2.1, .string x.2.2] := hx
    subst hx'
    exact isFolded_any x w'⟩
set_option maxRecDepth 100000 in
set_option maxHeartbeats 4000000 in
theorem fits_any {S : List Cl3} (hS : S.length ≤ 500) (x : Pg × Tg) (k : Int) {Q : Nat → Prop} {w : World} {cs : List Value} {a : Option Addr} {n c : Nat} (hR : RowIs eClm (fun _ => True) w (.slice a n c) S) (hx : eG.E Q w x cs) :
    Calls Tryz.prog 61 #[.slice a n c, .agg cs.toArray, .int .i64 k] w fun en w' => en = .returned (.int .i64 (fitsP S x k)) ∧ Below w.heap.size w w' := by
  have hEx' := hx
  obtain ⟨ea, en, ec, rfl, -⟩ := hEx'
  simp only [exC] at *
  have hw := bal (Below.refl w.heap.size w) (.cells #[.int .i64 x.1.1, .int .i64 x.1.2.1, .int .i64 x.1.2.2.1, .string x.1.2.2.2.1, .string x.1.2.2.2.2.1, .string x.1.2.2.2.2.2, .slice ea en ec] 28)
  have bx := Bk.new w (.cells #[.int .i64 x.1.1, .int .i64 x.1.2.1, .int .i64 x.1.2.2.1, .string x.1.2.2.2.1, .string x.1.2.2.2.2.1, .string x.1.2.2.2.2.2, .slice ea en ec] 28)
  have HK : Hid _ := hid (kind_any hS x Q (w.alloc (.cells #[.int .i64 x.1.1, .int .i64 x.1.2.1, .int .i64 x.1.2.2.1, .string x.1.2.2.2.1, .string x.1.2.2.2.2.1, .string x.1.2.2.2.2.2, .slice ea en ec] 28)) [.int .i64 x.1.1, .int .i64 x.1.2.1, .int .i64 x.1.2.2.1, .string x.1.2.2.2.1, .string x.1.2.2.2.2.1, .string x.1.2.2.2.2.2, .slice ea en ec] a n c (hR.keep (by decide) fun b _ hl => hw.block b hl) (eG.keep (fun b _ hl => hw.block b hl) hx))
  have HF : Hid (fitsP S x k = if (kdT S x).2 = 0 ∧ (kdT S x).1 ≠ k then 11 else (kdT S x).2) := hid rfl
  generalize fitsP S x k = T at *
  clear hR hx
  generalize (kdT S x).1 = r1 at *
  generalize (kdT S x).2 = r2 at *
  go_enter Tryz.func61, Tryz.ntmps61
  go_upto_region 1 with fail
  generalize w.alloc (.cells #[.int .i64 x.1.1, .int .i64 x.1.2.1, .int .i64 x.1.2.2.1, .string x.1.2.2.2.1, .string x.1.2.2.2.2.1, .string x.1.2.2.2.2.2, .slice ea en ec] 28) = W at *
  have d0 := bx.cell 0
  have d1 := bx.cell 1
  have d2 := bx.cell 2
  have d3 := bx.cell 3
  have d4 := bx.cell 4
  have d5 := bx.cell 5
  have d6 := bx.cell 6
  simp only [List.getElem?_toArray, List.getElem?_cons_zero, List.getElem?_cons_succ] at d0 d1 d2 d3 d4 d5 d6
  clear bx
  go_wp2_with fail
  refine Calls.mono HK.out ?_
  rintro e w4 ⟨rfl, hb4⟩
  have hB := Below.on hw hb4
  clear HK hb4 hw d0 d1 d2 d3 d4 d5 d6
  by_cases h2 : r2 = 0
  · subst h2
    by_cases h1 : r1 = k
    · subst h1
      have HT : Hid (T = 0) := hid (by rw [HF.out]; simp)
      clear HF
      go_wp2
      go_ret
      exact ⟨ret_int HT.out.symm, hB⟩
    · have HT : Hid (T = 11) := hid (by rw [HF.out, if_pos ⟨rfl, h1⟩])
      have g1 : decide (r1 = k) = false := by simpa using h1
      have g2 : (r1 != k) = true := by simpa using h1
      clear HF
      go_wp2
      go_ret
      exact ⟨ret_int HT.out.symm, hB⟩
  · have HT : Hid (T = r2) := hid (by rw [HF.out, if_neg (by rintro ⟨h, _⟩; exact h2 h)])
    have g1 : decide (r2 = 0) = false := by simpa using h2
    clear HF
    go_wp2
    go_ret
    exact ⟨ret_int HT.out.symm, hB⟩
set_option maxRecDepth 100000 in
set_option maxHeartbeats 4000000 in
theorem where1_any {S : List Cl3} (hS : S.length ≤ 500) (x : Pg × Tg) {Q : Nat → Prop} {w : World} {cs : List Value} {a : Option Addr} {n c bf : Nat} (hR : RowIs eClm (fun _ => True) w (.slice a n c) S) (hf : w.cell? ⟨bf, 0, none⟩ = some (.slice a n c)) (hx : eG.E Q w x cs) :
    Calls Tryz.prog 94 #[.agg cs.toArray, .pointer (some ⟨bf, 0, none⟩)] w fun en w' => en = .returned (.int .i64 (fitsP S x 3)) ∧ Below w.heap.size w w' := by
  have hEx' := hx
  obtain ⟨ea, en, ec, rfl, -⟩ := hEx'
  simp only [exC] at *
  have hw := bal (Below.refl w.heap.size w) (.cells #[.int .i64 x.1.1, .int .i64 x.1.2.1, .int .i64 x.1.2.2.1, .string x.1.2.2.2.1, .string x.1.2.2.2.2.1, .string x.1.2.2.2.2.2, .slice ea en ec] 28)
  have bx := Bk.new w (.cells #[.int .i64 x.1.1, .int .i64 x.1.2.1, .int .i64 x.1.2.2.1, .string x.1.2.2.2.1, .string x.1.2.2.2.2.1, .string x.1.2.2.2.2.2, .slice ea en ec] 28)
  have HK : Hid _ := hid (fits_any hS x 3 (w := w.alloc (.cells #[.int .i64 x.1.1, .int .i64 x.1.2.1, .int .i64 x.1.2.2.1, .string x.1.2.2.2.1, .string x.1.2.2.2.2.1, .string x.1.2.2.2.2.2, .slice ea en ec] 28)) (cs := [.int .i64 x.1.1, .int .i64 x.1.2.1, .int .i64 x.1.2.2.1, .string x.1.2.2.2.1, .string x.1.2.2.2.2.1, .string x.1.2.2.2.2.2, .slice ea en ec]) (hR.keep (by decide) fun b _ hl => hw.block b hl) (eG.keep (fun b _ hl => hw.block b hl) hx))
  have hf1 := cell_later hw hf
  clear hR hx hf
  go_enter Tryz.func94, Tryz.ntmps94
  go_upto_region 1 with fail
  generalize w.alloc (.cells #[.int .i64 x.1.1, .int .i64 x.1.2.1, .int .i64 x.1.2.2.1, .string x.1.2.2.2.1, .string x.1.2.2.2.2.1, .string x.1.2.2.2.2.2, .slice ea en ec] 28) = W at *
  have d0 := bx.cell 0
  have d1 := bx.cell 1
  have d2 := bx.cell 2
  have d3 := bx.cell 3
  have d4 := bx.cell 4
  have d5 := bx.cell 5
  have d6 := bx.cell 6
  simp only [List.getElem?_toArray, List.getElem?_cons_zero, List.getElem?_cons_succ] at d0 d1 d2 d3 d4 d5 d6
  clear bx
  go_wp2_with fail
  refine Calls.mono HK.out ?_
  rintro e w4 ⟨rfl, hb4⟩
  go_wp2
  go_ret
  exact ⟨rfl, Below.on hw hb4⟩

end Go.Proofs.YtljmlacnfnmjbaaGreat
namespace Go.Proofs.YtljmlacnfnmjbaaGreat
open Go.RowKit
set_option linter.unusedVariables false
set_option linter.unusedSimpArgs false

/-- A function value that tells an error of a thing in memory: handed-in arguments stand ahead (bn) or behind (cp). -/
def ErrZ {α : Type} (e : Ek α) (f : α → Int) (w : World) (v : Value) : Prop := ∃ N bn cp, v = .func (.func N) bn cp ∧ (∀ args w', (callFunc N args).run Tryz.prog w' = .ok (.enter N args) w') ∧ ∀ (x : α) (Q : Nat → Prop) (cs : List Value) (w' : World), Below w.heap.size w w' → e.E Q w' x cs → Calls Tryz.prog N (bn.push (.agg cs.toArray) ++ cp) w' fun en w'' => en = .returned (.int .i64 (f x)) ∧ Below w'.heap.size w' w''

set_option maxRecDepth 100000 in
set_option maxHeartbeats 4000000 in
theorem first1Ex {f : Pg × Tg → Int} {w1 : World} {bf : Nat} {N : Nat} {bn cp : Array Value} (hv : ErrZ eG f w1 (.func (.func N) bn cp)) (hf : w1.cell? ⟨bf, 0, none⟩ = some (.func (.func N) bn cp)) {Q : Nat → Prop} {x : Pg × Tg} {w' : World} (hb : Below w1.heap.size w1 w') {cs : List Value} (hx : eG.E Q w' x cs) :
    Calls Tryz.prog 117 #[.agg #[], .agg cs.toArray, .pointer (some ⟨bf, 0, none⟩)] w' fun en w'' => en = .returned (.tuple #[.agg #[], .int .i64 (f x)]) ∧ Below w'.heap.size w' w'' := by
  obtain ⟨N', bn', cp', e', hcf, hN⟩ := hv
  cases e'
  have hEx' := hx
  obtain ⟨ea, en, ec, rfl, -⟩ := hEx'
  simp only [exC] at *
  have hw := bal (bal (bal (Below.refl w'.heap.size w') (.cells #[] 168)) (.cells #[.int .i64 x.1.1, .int .i64 x.1.2.1, .int .i64 x.1.2.2.1, .string x.1.2.2.2.1, .string x.1.2.2.2.2.1, .string x.1.2.2.2.2.2, .slice ea en ec] 28)) (.cells #[] 168)
  have bx := (Bk.new (w'.alloc (.cells #[] 168)) (.cells #[.int .i64 x.1.1, .int .i64 x.1.2.1, .int .i64 x.1.2.2.1, .string x.1.2.2.2.1, .string x.1.2.2.2.2.1, .string x.1.2.2.2.2.2, .slice ea en ec] 28)).later (bal (Below.refl _ _) (.cells #[] 168))
  rw [World.size_alloc] at bx
  have HX : Hid (∀ W2, Below w'.heap.size w' W2 → _) := hid fun W2 hb2 => hN x Q [.int .i64 x.1.1, .int .i64 x.1.2.1, .int .i64 x.1.2.2.1, .string x.1.2.2.2.1, .string x.1.2.2.2.2.1, .string x.1.2.2.2.2.2, .slice ea en ec] W2 (Below.on hb hb2) (eG.keep (fun b _ hl => hb2.block b hl) hx)
  have hf1 := cell_later (Below.on hb hw) hf
  clear hb hN hx hf
  generalize f x = z at *
  go_enter Tryz.func117, Tryz.ntmps117
  go_upto_region 1 with fail
  generalize hW : ((w'.alloc (.cells #[] 168)).alloc (.cells #[.int .i64 x.1.1, .int .i64 x.1.2.1, .int .i64 x.1.2.2.1, .string x.1.2.2.2.1, .string x.1.2.2.2.2.1, .string x.1.2.2.2.2.2, .slice ea en ec] 28)).alloc (.cells #[] 168) = W at *
  clear hW
  generalize w'.heap.size + 1 = qx at bx ⊢
  have d0 := bx.cell 0
  have d1 := bx.cell 1
  have d2 := bx.cell 2
  have d3 := bx.cell 3
  have d4 := bx.cell 4
  have d5 := bx.cell 5
  have d6 := bx.cell 6
  simp only [List.getElem?_toArray, List.getElem?_cons_zero, List.getElem?_cons_succ] at d0 d1 d2 d3 d4 d5 d6
  clear bx
  have hC : Below W.heap.size W W.drew := (Below.refl _ W).drew
  go_wp2
  go_region_held (fun w' => w'.cell? ⟨bf, 0, none⟩ = some (.func (.func N) bn cp) ∧ w'.cell? ⟨qx, 0, none⟩ = some (.int .i64 x.1.1) ∧ w'.cell? ⟨qx, 1, none⟩ = some (.int .i64 x.1.2.1) ∧ w'.cell? ⟨qx, 2, none⟩ = some (.int .i64 x.1.2.2.1) ∧ w'.cell? ⟨qx, 3, none⟩ = some (.string x.1.2.2.2.1) ∧ w'.cell? ⟨qx, 4, none⟩ = some (.string x.1.2.2.2.2.1) ∧ w'.cell? ⟨qx, 5, none⟩ = some (.string x.1.2.2.2.2.2) ∧ w'.cell? ⟨qx, 6, none⟩ = some (.slice ea en ec))
    (first | exact ⟨cell_later hC hf1, cell_later hC d0, cell_later hC d1, cell_later hC d2, cell_later hC d3, cell_later hC d4, cell_later hC d5, cell_later hC d6⟩)
    (first
    | (with_reducible refine Calls.mono (HX.out _ (Below.on hw hC)) ?_; rintro e z1 ⟨rfl, hb1⟩; replace hC := Below.on hC hb1))
  all_goals
    go_wp2
    exact bodyPost_ret (v := .tuple #[.agg #[], .int .i64 z]) (by simp [results, Tryz.results117, go_sem]) rfl ⟨rfl, Below.on hw hC⟩
set_option maxRecDepth 100000 in
set_option maxHeartbeats 4000000 in
theorem first1It {f : It → Int} {w1 : World} {bf : Nat} {N : Nat} {bn cp : Array Value} (hv : ErrZ eItem f w1 (.func (.func N) bn cp)) (hf : w1.cell? ⟨bf, 0, none⟩ = some (.func (.func N) bn cp)) {Q : Nat → Prop} {x : It} {w' : World} (hb : Below w1.heap.size w1 w') {cs : List Value} (hx : eItem.E Q w' x cs) :
    Calls Tryz.prog 113 #[.agg #[], .agg cs.toArray, .pointer (some ⟨bf, 0, none⟩)] w' fun en w'' => en = .returned (.tuple #[.agg #[], .int .i64 (f x)]) ∧ Below w'.heap.size w' w'' := by
  obtain ⟨N', bn', cp', e', hcf, hN⟩ := hv
  cases e'
  have hEx' := hx
  obtain rfl := hEx'
  have hw := bal (bal (bal (Below.refl w'.heap.size w') (.cells #[] 168)) (.cells #[.int .i64 x.1, .string x.2.1, .string x.2.2] 66)) (.cells #[] 168)
  have bx := (Bk.new (w'.alloc (.cells #[] 168)) (.cells #[.int .i64 x.1, .string x.2.1, .string x.2.2] 66)).later (bal (Below.refl _ _) (.cells #[] 168))
  rw [World.size_alloc] at bx
  have HX : Hid (∀ W2, Below w'.heap.size w' W2 → _) := hid fun W2 hb2 => hN x Q [.int .i64 x.1, .string x.2.1, .string x.2.2] W2 (Below.on hb hb2) (eItem.keep (fun b _ hl => hb2.block b hl) hx)
  have hf1 := cell_later (Below.on hb hw) hf
  clear hb hN hx hf
  generalize f x = z at *
  go_enter Tryz.func113, Tryz.ntmps113
  go_upto_region 1 with fail
  generalize hW : ((w'.alloc (.cells #[] 168)).alloc (.cells #[.int .i64 x.1, .string x.2.1, .string x.2.2] 66)).alloc (.cells #[] 168) = W at *
  clear hW
  generalize w'.heap.size + 1 = qx at bx ⊢
  have d0 := bx.cell 0
  have d1 := bx.cell 1
  have d2 := bx.cell 2
  simp only [List.getElem?_toArray, List.getElem?_cons_zero, List.getElem?_cons_succ] at d0 d1 d2
  clear bx
  have hC : Below W.heap.size W W.drew := (Below.refl _ W).drew
  go_wp2
  go_region_held (fun w' => w'.cell? ⟨bf, 0, none⟩ = some (.func (.func N) bn cp) ∧ w'.cell? ⟨qx, 0, none⟩ = some (.int .i64 x.1) ∧ w'.cell? ⟨qx, 1, none⟩ = some (.string x.2.1) ∧ w'.cell? ⟨qx, 2, none⟩ = some (.string x.2.2))
    (first | exact ⟨cell_later hC hf1, cell_later hC d0, cell_later hC d1, cell_later hC d2⟩)
    (first
    | (with_reducible refine Calls.mono (HX.out _ (Below.on hw hC)) ?_; rintro e z1 ⟨rfl, hb1⟩; replace hC := Below.on hC hb1))
  all_goals
    go_wp2
    exact bodyPost_ret (v := .tuple #[.agg #[], .int .i64 z]) (by simp [results, Tryz.results113, go_sem]) rfl ⟨rfl, Below.on hw hC⟩

end Go.Proofs.YtljmlacnfnmjbaaGreat
