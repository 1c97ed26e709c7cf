import Derived.Test.YtnlaaejdianfjabGreatQpaa
import Derived.Test.YtnlaaejdianfjabGreatQpab
namespace Go.Proofs.YtnlaaejdianfjabGreat
open Go.RowKit
set_option linter.unusedVariables false
set_option linter.unusedSimpArgs false

/-- A value: its kind, its number, its text. -/
abbrev Vt := Int × Int × ByteArray
abbrev vZ : Vt := (0, 0, ⟨#[]⟩)
abbrev vV (v : Vt) : Value := .agg #[.int .i64 v.1, .int .i64 v.2.1, .string v.2.2]
def eVal : Ek Vt := ⟨3, fun _ _ v cs => cs = [.int .i64 v.1, .int .i64 v.2.1, .string v.2.2], fun _ h => h, fun _ h => h⟩
def trV (b : Bool) : Vt := (3, if b then 1 else 0, ⟨#[]⟩)
def knP (v : Vt) (k : Int) : Int × Int := if v.1 = k then (v.2.1, 0) else (0, 11)
def partsP (op : Int) : Int := if op = 1 then 0 else if op = 2 then 0 else if op = 3 then 1 else if op = 4 then 1 else if 5 ≤ op ∧ op ≤ 15 then 2 else -1
def standsP (op o : Int) : Bool := if op = 8 then decide (o = 0) else if op = 9 then !decide (o = 0) else if op = 10 then decide (o < 0) else if op = 11 then decide (o ≤ 0) else if op = 12 then decide (0 < o) else decide (0 ≤ o)
def cmpVt (a b : Vt) : Int := cmpV a.1 a.2.1 (nums a.2.2) b.1 b.2.1 (nums b.2.2)
def cmpdP (op : Int) (a b : Vt) : Vt × Int := if a.1 ≠ b.1 ∨ (a.1 ≠ 1 ∧ a.1 ≠ 2) then (vZ, 11) else (trV (standsP op (cmpVt a b)), 0)
/-- What a way makes of numbers. -/
def numP (op : Int) (l : List Int) : Int := if op = 3 then -(l.headD 0) else if op = 5 then l.headD 0 + l.tail.headD 0 else if op = 6 then l.headD 0 - l.tail.headD 0 else l.headD 0 * l.tail.headD 0
def isNumOp (op : Int) : Bool := decide (op = 3) || (decide (op = 5) || (decide (op = 6) || decide (op = 7)))
def recP (op : Int) (vs : List Vt) : Vt × Int := if erL (vs.map fun v => (knP v 1).2) ≠ 0 then (vZ, erL (vs.map fun v => (knP v 1).2)) else ((1, nV (numP op (vs.map fun v => v.2.1)), ⟨#[]⟩), nE (numP op (vs.map fun v => v.2.1)))
def madeP (op : Int) (vs : List Vt) : Vt × Int := if isNumOp op then recP op vs else if op = 4 then (trV (!decide ((knP (vs.headD vZ) 3).1 = 1)), (knP (vs.headD vZ) 3).2) else cmpdP op (vs.headD vZ) (vs.tail.headD vZ)
/-- The number of a truth, or an error. -/
def boP (r : Vt × Int) : Int × Int := if r.2 ≠ 0 then (0, r.2) else knP r.1 3
def upP (z : Int) (r0 r1 : Vt × Int) : Vt × Int := if (boP r0).2 ≠ 0 then (trV false, (boP r0).2) else if (boP r0).1 = z then (trV (decide (z = 1)), 0) else if (boP r1).2 ≠ 0 then (trV false, (boP r1).2) else (trV (decide ((boP r1).1 = 1)), 0)
/-- The column that is meant. -/
def itV (tb nm : ByteArray) (c : It) : Bool := eqS c.2.2 nm && (eqS tb ⟨#[]⟩ || eqS c.2.1 tb)
def colV (C : List It) (V : List Vt) (tb nm : ByteArray) : Vt × Int := if 0 ≤ fidx (itV tb nm) C ∧ (C.drop ((fidx (itV tb nm) C).toNat + 1)).any (itV tb nm) = false then ((V[(fidx (itV tb nm) C).toNat]?).getD vZ, 0) else (vZ, 10)
def ev1 (C : List It) (V : List Vt) (p : Pg) (rs : List (Vt × Int)) : Vt × Int :=
  if (rs.length : Int) ≠ partsP p.1 then (vZ, 1)
  else if p.1 = 1 then ((p.2.1, p.2.2.1, p.2.2.2.1), 0)
  else if p.1 = 2 then colV C V p.2.2.2.2.1 p.2.2.2.2.2
  else if p.1 = 14 then upP 0 (rs.headD (vZ, 0)) (rs.tail.headD (vZ, 0))
  else if p.1 = 15 then upP 1 (rs.headD (vZ, 0)) (rs.tail.headD (vZ, 0))
  else if erL (rs.map (·.2)) ≠ 0 then (vZ, erL (rs.map (·.2)))
  else madeP p.1 (rs.map (·.1))
def evs (C : List It) (V : List Vt) : Tg → List (Vt × Int)
  | .nil => []
  | .node _ _ p l r => ev1 C V p (evs C V l) :: evs C V r
def evT (C : List It) (V : List Vt) (t : Pg × Tg) : Vt × Int := ev1 C V t.1 (evs C V t.2)
theorem evs_map (C : List It) (V : List Vt) : ∀ f : Tg, evs C V f = (toL f).map (evT C V) := by
  intro f
  induction f with
  | nil => rfl
  | node x y p l r ihl ihr => rw [evs, toL, List.map_cons, ← ihr]; rfl
theorem evs_len (C : List It) (V : List Vt) (f : Tg) : (evs C V f).length = (toL f).length := by rw [evs_map, List.length_map]

set_option maxRecDepth 100000 in
theorem parts_any (op : Int) (w : World) : Calls Tryz.prog 79 #[.int .i64 op] w fun e w' => e = .returned (.int .i64 (partsP op)) ∧ w' = w := by
  by_cases h1 : op = 1
  · subst h1
    rw [show partsP 1 = 0 from rfl]
    go_enter Tryz.func79, Tryz.ntmps79
    go_wp2
    go_ret
    exact ⟨rfl, rfl⟩
  have g1 : decide (op = 1) = false := by simpa using h1
  by_cases h2 : op = 2
  · subst h2
    rw [show partsP 2 = 0 from rfl]
    go_enter Tryz.func79, Tryz.ntmps79
    go_wp2
    go_ret
    exact ⟨rfl, rfl⟩
  have g2 : decide (op = 2) = false := by simpa using h2
  by_cases h3 : op = 3
  · subst h3
    rw [show partsP 3 = 1 from rfl]
    go_enter Tryz.func79, Tryz.ntmps79
    go_wp2
    go_ret
    exact ⟨rfl, rfl⟩
  have g3 : decide (op = 3) = false := by simpa using h3
  by_cases h4 : op = 4
  · subst h4
    rw [show partsP 4 = 1 from rfl]
    go_enter Tryz.func79, Tryz.ntmps79
    go_wp2
    go_ret
    exact ⟨rfl, rfl⟩
  have g4 : decide (op = 4) = false := by simpa using h4
  by_cases h5 : 5 ≤ op
  · have g5 : decide (5 ≤ op) = true := by simpa using h5
    by_cases h6 : op ≤ 15
    · have g6 : decide (op ≤ 15) = true := by simpa using h6
      rw [show partsP op = 2 from by simp [partsP, h1, h2, h3, h4, h5, h6]]
      go_enter Tryz.func79, Tryz.ntmps79
      go_wp2
      go_ret
      exact ⟨rfl, rfl⟩
    · have g6 : decide (op ≤ 15) = false := by simpa using h6
      rw [show partsP op = -1 from by simp [partsP, h1, h2, h3, h4, h6]]
      go_enter Tryz.func79, Tryz.ntmps79
      go_wp2
      go_ret
      exact ⟨rfl, rfl⟩
  · have g5 : decide (5 ≤ op) = false := by simpa using h5
    rw [show partsP op = -1 from by simp [partsP, h1, h2, h3, h4, h5]]
    go_enter Tryz.func79, Tryz.ntmps79
    go_wp2
    go_ret
    exact ⟨rfl, rfl⟩

set_option maxRecDepth 100000 in
theorem truthE_any (b : Bool) (w : World) : Calls Tryz.prog 94 #[.bool b] w fun e w' => e = .returned (vV (trV b)) ∧ Below w.heap.size w w' := by
  have hw := bal (Below.refl w.heap.size w) (.cells #[.int .i64 0, .int .i64 0, .string ⟨#[]⟩] 39)
  cases b with
  | true =>
    go_enter Tryz.func94, Tryz.ntmps94
    go_wp2
    refine bodyPost_ret (v := .agg #[.int .i64 3, .int .i64 1, .string ⟨#[]⟩]) (by simp [results, Tryz.results94, go_sem]) rfl ⟨rfl, ?_⟩
    first | exact hw | exact bal (Below.refl _ _) _ | exact ((hw.setCell (Nat.le_refl _) _).setCell (Nat.le_refl _) _).setCell (Nat.le_refl _) _
  | false =>
    go_enter Tryz.func94, Tryz.ntmps94
    go_wp2
    refine bodyPost_ret (v := .agg #[.int .i64 3, .int .i64 0, .string ⟨#[]⟩]) (by simp [results, Tryz.results94, go_sem]) rfl ⟨rfl, ?_⟩
    first | exact hw | exact bal (Below.refl _ _) _ | exact ((hw.setCell (Nat.le_refl _) _).setCell (Nat.le_refl _) _).setCell (Nat.le_refl _) _

set_option maxRecDepth 100000 in
theorem intOfV_any (v : Vt) (k : Int) (w : World) : Calls Tryz.prog 93 #[vV v, .int .i64 k] w fun e w' => e = .returned (.tuple #[.int .i64 (knP v k).1, .int .i64 (knP v k).2]) ∧ Below w.heap.size w w' := by
  obtain ⟨v0, v1, v2⟩ := v
  have hw := bal (Below.refl w.heap.size w) (.cells #[.int .i64 v0, .int .i64 v1, .string v2] 39)
  by_cases h : v0 = k
  · rw [show knP (v0, v1, v2) k = (v1, 0) from if_pos h]
    subst h
    go_enter Tryz.func93, Tryz.ntmps93
    go_wp2
    exact bodyPost_ret (v := .tuple #[.int .i64 v1, .int .i64 0]) (by simp [results, Tryz.results93]) rfl ⟨rfl, hw⟩
  · rw [show knP (v0, v1, v2) k = (0, 11) from if_neg h]
    have h1 : (v0 != k) = true := by simpa using h
    have h2 : decide (v0 = k) = false := by simpa using h
    go_enter Tryz.func93, Tryz.ntmps93
    go_wp2
    exact bodyPost_ret (v := .tuple #[.int .i64 0, .int .i64 11]) (by simp [results, Tryz.results93]) rfl ⟨rfl, hw⟩

set_option maxRecDepth 100000 in
theorem stands_any (op o : Int) (w : World) : Calls Tryz.prog 105 #[.int .i64 op, .int .i64 o] w fun e w' => e = .returned (.bool (standsP op o)) ∧ w' = w := by
  by_cases h8 : op = 8
  · subst h8
    rw [show standsP 8 o = (decide (o = 0)) from rfl]
    go_enter Tryz.func105, Tryz.ntmps105
    go_wp2
    go_ret
    exact ⟨ret_bool (by first | rfl | (rw [Bool.eq_iff_iff]; simp)), rfl⟩
  have g8 : decide (op = 8) = false := by simpa using h8
  by_cases h9 : op = 9
  · subst h9
    rw [show standsP 9 o = (!decide (o = 0)) from rfl]
    go_enter Tryz.func105, Tryz.ntmps105
    go_wp2
    go_ret
    exact ⟨ret_bool (by first | rfl | (rw [Bool.eq_iff_iff]; simp)), rfl⟩
  have g9 : decide (op = 9) = false := by simpa using h9
  by_cases h10 : op = 10
  · subst h10
    rw [show standsP 10 o = (decide (o < 0)) from rfl]
    go_enter Tryz.func105, Tryz.ntmps105
    go_wp2
    go_ret
    exact ⟨ret_bool (by first | rfl | (rw [Bool.eq_iff_iff]; simp)), rfl⟩
  have g10 : decide (op = 10) = false := by simpa using h10
  by_cases h11 : op = 11
  · subst h11
    rw [show standsP 11 o = (decide (o ≤ 0)) from rfl]
    go_enter Tryz.func105, Tryz.ntmps105
    go_wp2
    go_ret
    exact ⟨ret_bool (by first | rfl | (rw [Bool.eq_iff_iff]; simp)), rfl⟩
  have g11 : decide (op = 11) = false := by simpa using h11
  by_cases h12 : op = 12
  · subst h12
    rw [show standsP 12 o = (decide (0 < o)) from rfl]
    go_enter Tryz.func105, Tryz.ntmps105
    go_wp2
    go_ret
    exact ⟨ret_bool (by first | rfl | (rw [Bool.eq_iff_iff]; simp)), rfl⟩
  have g12 : decide (op = 12) = false := by simpa using h12
  rw [show standsP op o = decide (0 ≤ o) from by simp [standsP, h8, h9, h10, h11, h12]]
  go_enter Tryz.func105, Tryz.ntmps105
  go_wp2
  go_ret
  exact ⟨ret_bool (by first | rfl | (rw [Bool.eq_iff_iff]; simp)), rfl⟩

end Go.Proofs.YtnlaaejdianfjabGreat
namespace Go.Proofs.YtnlaaejdianfjabGreat
open Go.RowKit
set_option linter.unusedVariables false
set_option linter.unusedSimpArgs false

set_option maxRecDepth 100000 in
set_option maxHeartbeats 4000000 in
theorem foldVExbo {l : List (Pg × Tg)} (hlen : l.length ≤ 500) {B : Nat} {Q : Nat → Prop} {w : World} (hBs : B ≤ w.heap.size) (hQ : ∀ b, Q b → b < B) {ao : Option Addr} {n c : Nat} (h : RowIs eG Q w (.slice ao n c) l) {N : Nat} {caps : Array Value} (hcf : ∀ args w', (callFunc N args).run Tryz.prog w' = .ok (.enter N args) w') (er : Nat → Int) (I : Nat → World → Bool → Prop)
    (hI : ∀ i w' a, I i w' a → Below B w w') (hA : ∀ i w' a o, I i w' a → I i (w'.alloc o) a) {a0 : Bool} (h0 : I 0 w a0)
    (hs : ∀ i (hi : i < l.length) (w' : World) (a : Bool) (cs : List Value), I i w' a → eG.E Q w' l[i] cs → Calls Tryz.prog N (#[.bool a, .agg cs.toArray] ++ caps) w' fun en w'' => ∃ a2, en = .returned (.tuple #[.bool a2, .int .i64 (er i)]) ∧ Below B w w'' ∧ (er i = 0 → I (i + 1) w'' a2)) :
    Calls Tryz.prog 52 #[.slice ao n c, .bool a0, .func (.func N) #[] caps] w fun en w' => ∃ a2, en = .returned (.tuple #[.bool a2, .int .i64 (erO er l.length)]) ∧ Below B w w' ∧ (erO er l.length = 0 → I l.length w' a2) ∧ (erO er l.length ≠ 0 → a2 = false) := by
  have HR : Hid (∀ w', Below B w w' → RowIs eG Q w' (.slice ao n c) l) := hid fun w' hb => h.keep (by decide) fun b hq _ => hb.block b (hQ b hq)
  have HS : Hid (∀ i (hi : i < l.length) (w' : World) (a : Bool) (cs : List Value), I i w' a → eG.E Q w' l[i] cs → _) := hid hs
  have HI : Hid (∀ i w' a, I i w' a → Below B w w') := hid hI
  have HA : Hid (∀ i w' a o, I i w' a → I i (w'.alloc o) a) := hid hA
  have H0 : Hid (I 0 w a0) := hid h0
  obtain ⟨ao', n', c', e', hn, hnc, hc, _⟩ := h
  cases e'
  subst hn
  clear hs hI hA h0 hQ
  go_enter Tryz.func52, Tryz.ntmps52
  go_wp2
  go_loopw [1, 14] (fun v1 v14 wr => ∃ k : Nat, ∃ a, k ≤ l.length ∧ v14 = .int .i64 k ∧ v1 = .bool a ∧ Hid (I k wr a) ∧ Hid (erO er k = 0)) (fun _ i _ => l.length - (intOf i).toNat)
  case atStart => exact ⟨0, _, Nat.zero_le _, rfl, rfl, H0, hid rfl⟩
  case round =>
    obtain ⟨k, a, hk, rfl, rfl, HK, HE⟩ := hrel
    by_cases hlt : k < l.length
    · have hB := HI.out _ _ _ HK.out
      obtain ⟨_, _, _, e', _, _, _, hx⟩ := HR.out wr hB
      cases e'
      obtain ⟨b, o, rfl, hq, hi⟩ := hx (by omega)
      obtain ⟨cs, hEx, h2, h3⟩ := hi k hlt
      obtain ⟨x, hxl⟩ : ∃ x, l[k] = x := ⟨_, rfl⟩
      rw [hxl] at hEx
      have hEx' := hEx
      obtain ⟨ea, en, ec, rfl, -⟩ := hEx'
      have c0 : wr.cell? ⟨b, o + k * 7, none⟩ = some (.int .i64 x.1.1) := by exact h3 0 (show 0 < 7 by decide)
      have c1 : wr.cell? ⟨b, o + k * 7 + 1, none⟩ = some (.int .i64 x.1.2.1) := by exact h3 1 (show 1 < 7 by decide)
      have c2 : wr.cell? ⟨b, o + k * 7 + 2, none⟩ = some (.int .i64 x.1.2.2.1) := by exact h3 2 (show 2 < 7 by decide)
      have c3 : wr.cell? ⟨b, o + k * 7 + 3, none⟩ = some (.string x.1.2.2.2.1) := by exact h3 3 (show 3 < 7 by decide)
      have c4 : wr.cell? ⟨b, o + k * 7 + 4, none⟩ = some (.string x.1.2.2.2.2.1) := by exact h3 4 (show 4 < 7 by decide)
      have c5 : wr.cell? ⟨b, o + k * 7 + 5, none⟩ = some (.string x.1.2.2.2.2.2) := by exact h3 5 (show 5 < 7 by decide)
      have c6 : wr.cell? ⟨b, o + k * 7 + 6, none⟩ = some (.slice ea en ec) := by exact h3 6 (show 6 < 7 by decide)
      have hkm : (k : Int) < (l.length : Int) := by omega
      have hk5 : k ≤ 500 := by omega
      clear h2 h3 hi hx
      have HX := HS.out k hlt (wr.alloc (.cells #[.int .i64 x.1.1, .int .i64 x.1.2.1, .int .i64 x.1.2.2.1, .string x.1.2.2.2.1, .string x.1.2.2.2.2.1, .string x.1.2.2.2.2.2, .slice ea en ec] 42)) a [.int .i64 x.1.1, .int .i64 x.1.2.1, .int .i64 x.1.2.2.1, .string x.1.2.2.2.1, .string x.1.2.2.2.2.1, .string x.1.2.2.2.2.2, .slice ea en ec] (HA.out _ _ _ _ HK.out) (by rw [hxl]; exact eG.keep (fun b _ hl => (bal (Below.refl _ _) _).block b hl) hEx)
      have bx := Bk.new wr (.cells #[.int .i64 x.1.1, .int .i64 x.1.2.1, .int .i64 x.1.2.2.1, .string x.1.2.2.2.1, .string x.1.2.2.2.2.1, .string x.1.2.2.2.2.2, .slice ea en ec] 42)
      clear hEx hxl
      go_upto_region 4 with fail
      generalize wr.alloc (.cells #[.int .i64 x.1.1, .int .i64 x.1.2.1, .int .i64 x.1.2.2.1, .string x.1.2.2.2.1, .string x.1.2.2.2.2.1, .string x.1.2.2.2.2.2, .slice ea en ec] 42) = W at *
      have d0 := bx.cell 0
      have d1 := bx.cell 1
      have d2 := bx.cell 2
      have d3 := bx.cell 3
      have d4 := bx.cell 4
      have d5 := bx.cell 5
      have d6 := bx.cell 6
      simp only [List.getElem?_toArray, List.getElem?_cons_zero, List.getElem?_cons_succ] at d0 d1 d2 d3 d4 d5 d6
      clear bx c0 c1 c2 c3 c4 c5 c6
      obtain ⟨z, hz⟩ : ∃ z, er k = z := ⟨_, rfl⟩
      rw [hz] at HX
      have HZ : Hid (er k = z) := hid hz
      replace HX : Hid _ := hid HX
      clear hz
      go_wp2_with fail
      refine Calls.mono HX.out ?_
      rintro e w4 ⟨a2, rfl, hb4, hi4⟩
      have HI4 : Hid _ := hid hi4
      clear HX hi4
      by_cases h0 : z = 0
      · subst h0
        have HE2 : Hid (erO er (k + 1) = 0) := hid (by rw [erO_succ, if_pos HE.out, HZ.out])
        go_wp2
        go_roundw
        case rel => exact ⟨k + 1, a2, hlt, by go_num, rfl, hid (HI4.out (by first | rfl | trivial)), HE2⟩
        case measure => simp only [intOf]; omega
      · have HE2 : Hid (erO er l.length = z) := hid (by rw [erO_stop hlt HE.out (by rw [HZ.out]; exact h0), HZ.out])
        have h0' : (z != 0) = true := by simpa using h0
        have h0d : decide (z = 0) = false := by simpa using h0
        go_wp2
        refine bodyPost_ret (v := .tuple #[.bool false, .int .i64 z]) (by simp [results, Tryz.results52]) rfl ⟨false, by rw [HE2.out], hb4, fun h => absurd (HE2.out.symm.trans h) h0, fun _ => rfl⟩
    · obtain rfl : k = l.length := by omega
      have hB := HI.out _ _ _ HK.out
      go_wp2
      refine bodyPost_ret (v := .tuple #[.bool a, .int .i64 0]) (by simp [results, Tryz.results52]) rfl ⟨a, by rw [HE.out], hB, fun _ => HK.out, fun h => absurd HE.out h⟩

set_option maxRecDepth 100000 in
set_option maxHeartbeats 4000000 in
theorem foldVExin {l : List (Pg × Tg)} (hlen : l.length ≤ 500) {B : Nat} {Q : Nat → Prop} {w : World} (hBs : B ≤ w.heap.size) (hQ : ∀ b, Q b → b < B) {ao : Option Addr} {n c : Nat} (h : RowIs eG Q w (.slice ao n c) l) {N : Nat} {caps : Array Value} (hcf : ∀ args w', (callFunc N args).run Tryz.prog w' = .ok (.enter N args) w') (er : Nat → Int) (I : Nat → World → Int → Prop)
    (hI : ∀ i w' a, I i w' a → Below B w w') (hA : ∀ i w' a o, I i w' a → I i (w'.alloc o) a) {a0 : Int} (h0 : I 0 w a0)
    (hs : ∀ i (hi : i < l.length) (w' : World) (a : Int) (cs : List Value), I i w' a → eG.E Q w' l[i] cs → Calls Tryz.prog N (#[.int .i64 a, .agg cs.toArray] ++ caps) w' fun en w'' => ∃ a2, en = .returned (.tuple #[.int .i64 a2, .int .i64 (er i)]) ∧ Below B w w'' ∧ (er i = 0 → I (i + 1) w'' a2)) :
    Calls Tryz.prog 91 #[.slice ao n c, .int .i64 a0, .func (.func N) #[] caps] w fun en w' => ∃ a2, en = .returned (.tuple #[.int .i64 a2, .int .i64 (erO er l.length)]) ∧ Below B w w' ∧ (erO er l.length = 0 → I l.length w' a2) ∧ (erO er l.length ≠ 0 → a2 = 0) := by
  have HR : Hid (∀ w', Below B w w' → RowIs eG Q w' (.slice ao n c) l) := hid fun w' hb => h.keep (by decide) fun b hq _ => hb.block b (hQ b hq)
  have HS : Hid (∀ i (hi : i < l.length) (w' : World) (a : Int) (cs : List Value), I i w' a → eG.E Q w' l[i] cs → _) := hid hs
  have HI : Hid (∀ i w' a, I i w' a → Below B w w') := hid hI
  have HA : Hid (∀ i w' a o, I i w' a → I i (w'.alloc o) a) := hid hA
  have H0 : Hid (I 0 w a0) := hid h0
  obtain ⟨ao', n', c', e', hn, hnc, hc, _⟩ := h
  cases e'
  subst hn
  clear hs hI hA h0 hQ
  go_enter Tryz.func91, Tryz.ntmps91
  go_wp2
  go_loopw [1, 14] (fun v1 v14 wr => ∃ k : Nat, ∃ a, k ≤ l.length ∧ v14 = .int .i64 k ∧ v1 = .int .i64 a ∧ Hid (I k wr a) ∧ Hid (erO er k = 0)) (fun _ i _ => l.length - (intOf i).toNat)
  case atStart => exact ⟨0, _, Nat.zero_le _, rfl, rfl, H0, hid rfl⟩
  case round =>
    obtain ⟨k, a, hk, rfl, rfl, HK, HE⟩ := hrel
    by_cases hlt : k < l.length
    · have hB := HI.out _ _ _ HK.out
      obtain ⟨_, _, _, e', _, _, _, hx⟩ := HR.out wr hB
      cases e'
      obtain ⟨b, o, rfl, hq, hi⟩ := hx (by omega)
      obtain ⟨cs, hEx, h2, h3⟩ := hi k hlt
      obtain ⟨x, hxl⟩ : ∃ x, l[k] = x := ⟨_, rfl⟩
      rw [hxl] at hEx
      have hEx' := hEx
      obtain ⟨ea, en, ec, rfl, -⟩ := hEx'
      have c0 : wr.cell? ⟨b, o + k * 7, none⟩ = some (.int .i64 x.1.1) := by exact h3 0 (show 0 < 7 by decide)
      have c1 : wr.cell? ⟨b, o + k * 7 + 1, none⟩ = some (.int .i64 x.1.2.1) := by exact h3 1 (show 1 < 7 by decide)
      have c2 : wr.cell? ⟨b, o + k * 7 + 2, none⟩ = some (.int .i64 x.1.2.2.1) := by exact h3 2 (show 2 < 7 by decide)
      have c3 : wr.cell? ⟨b, o + k * 7 + 3, none⟩ = some (.string x.1.2.2.2.1) := by exact h3 3 (show 3 < 7 by decide)
      have c4 : wr.cell? ⟨b, o + k * 7 + 4, none⟩ = some (.string x.1.2.2.2.2.1) := by exact h3 4 (show 4 < 7 by decide)
      have c5 : wr.cell? ⟨b, o + k * 7 + 5, none⟩ = some (.string x.1.2.2.2.2.2) := by exact h3 5 (show 5 < 7 by decide)
      have c6 : wr.cell? ⟨b, o + k * 7 + 6, none⟩ = some (.slice ea en ec) := by exact h3 6 (show 6 < 7 by decide)
      have hkm : (k : Int) < (l.length : Int) := by omega
      have hk5 : k ≤ 500 := by omega
      clear h2 h3 hi hx
      have HX := HS.out k hlt (wr.alloc (.cells #[.int .i64 x.1.1, .int .i64 x.1.2.1, .int .i64 x.1.2.2.1, .string x.1.2.2.2.1, .string x.1.2.2.2.2.1, .string x.1.2.2.2.2.2, .slice ea en ec] 42)) a [.int .i64 x.1.1, .int .i64 x.1.2.1, .int .i64 x.1.2.2.1, .string x.1.2.2.2.1, .string x.1.2.2.2.2.1, .string x.1.2.2.2.2.2, .slice ea en ec] (HA.out _ _ _ _ HK.out) (by rw [hxl]; exact eG.keep (fun b _ hl => (bal (Below.refl _ _) _).block b hl) hEx)
      have bx := Bk.new wr (.cells #[.int .i64 x.1.1, .int .i64 x.1.2.1, .int .i64 x.1.2.2.1, .string x.1.2.2.2.1, .string x.1.2.2.2.2.1, .string x.1.2.2.2.2.2, .slice ea en ec] 42)
      clear hEx hxl
      go_upto_region 4 with fail
      generalize wr.alloc (.cells #[.int .i64 x.1.1, .int .i64 x.1.2.1, .int .i64 x.1.2.2.1, .string x.1.2.2.2.1, .string x.1.2.2.2.2.1, .string x.1.2.2.2.2.2, .slice ea en ec] 42) = W at *
      have d0 := bx.cell 0
      have d1 := bx.cell 1
      have d2 := bx.cell 2
      have d3 := bx.cell 3
      have d4 := bx.cell 4
      have d5 := bx.cell 5
      have d6 := bx.cell 6
      simp only [List.getElem?_toArray, List.getElem?_cons_zero, List.getElem?_cons_succ] at d0 d1 d2 d3 d4 d5 d6
      clear bx c0 c1 c2 c3 c4 c5 c6
      obtain ⟨z, hz⟩ : ∃ z, er k = z := ⟨_, rfl⟩
      rw [hz] at HX
      have HZ : Hid (er k = z) := hid hz
      replace HX : Hid _ := hid HX
      clear hz
      go_wp2_with fail
      refine Calls.mono HX.out ?_
      rintro e w4 ⟨a2, rfl, hb4, hi4⟩
      have HI4 : Hid _ := hid hi4
      clear HX hi4
      by_cases h0 : z = 0
      · subst h0
        have HE2 : Hid (erO er (k + 1) = 0) := hid (by rw [erO_succ, if_pos HE.out, HZ.out])
        go_wp2
        go_roundw
        case rel => exact ⟨k + 1, a2, hlt, by go_num, rfl, hid (HI4.out (by first | rfl | trivial)), HE2⟩
        case measure => simp only [intOf]; omega
      · have HE2 : Hid (erO er l.length = z) := hid (by rw [erO_stop hlt HE.out (by rw [HZ.out]; exact h0), HZ.out])
        have h0' : (z != 0) = true := by simpa using h0
        have h0d : decide (z = 0) = false := by simpa using h0
        go_wp2
        refine bodyPost_ret (v := .tuple #[.int .i64 0, .int .i64 z]) (by simp [results, Tryz.results91]) rfl ⟨0, by rw [HE2.out], hb4, fun h => absurd (HE2.out.symm.trans h) h0, fun _ => rfl⟩
    · obtain rfl : k = l.length := by omega
      have hB := HI.out _ _ _ HK.out
      go_wp2
      refine bodyPost_ret (v := .tuple #[.int .i64 a, .int .i64 0]) (by simp [results, Tryz.results91]) rfl ⟨a, by rw [HE.out], hB, fun _ => HK.out, fun h => absurd HE.out h⟩

set_option maxRecDepth 100000 in
set_option maxHeartbeats 4000000 in
theorem foldVExsl {l : List (Pg × Tg)} (hlen : l.length ≤ 500) {B : Nat} {Q : Nat → Prop} {w : World} (hBs : B ≤ w.heap.size) (hQ : ∀ b, Q b → b < B) {ao : Option Addr} {n c : Nat} (h : RowIs eG Q w (.slice ao n c) l) {N : Nat} {caps : Array Value} (hcf : ∀ args w', (callFunc N args).run Tryz.prog w' = .ok (.enter N args) w') (er : Nat → Int) (I : Nat → World → Option Addr → Nat → Nat → Prop)
    (hI : ∀ i w' a m d, I i w' a m d → Below B w w') (hA : ∀ i w' a m d o, I i w' a m d → I i (w'.alloc o) a m d) {a0 : Option Addr} {m0 : Nat} {d0 : Nat} (h0 : I 0 w a0 m0 d0)
    (hs : ∀ i (hi : i < l.length) (w' : World) (a : Option Addr) (m : Nat) (d : Nat) (cs : List Value), I i w' a m d → eG.E Q w' l[i] cs → Calls Tryz.prog N (#[.slice a m d, .agg cs.toArray] ++ caps) w' fun en w'' => ∃ a2 m2 d2, en = .returned (.tuple #[.slice a2 m2 d2, .int .i64 (er i)]) ∧ Below B w w'' ∧ (er i = 0 → I (i + 1) w'' a2 m2 d2)) :
    Calls Tryz.prog 95 #[.slice ao n c, .slice a0 m0 d0, .func (.func N) #[] caps] w fun en w' => ∃ a2 m2 d2, en = .returned (.tuple #[.slice a2 m2 d2, .int .i64 (erO er l.length)]) ∧ Below B w w' ∧ (erO er l.length = 0 → I l.length w' a2 m2 d2) ∧ (erO er l.length ≠ 0 → True) := by
  have HR : Hid (∀ w', Below B w w' → RowIs eG Q w' (.slice ao n c) l) := hid fun w' hb => h.keep (by decide) fun b hq _ => hb.block b (hQ b hq)
  have HS : Hid (∀ i (hi : i < l.length) (w' : World) (a : Option Addr) (m : Nat) (d : Nat) (cs : List Value), I i w' a m d → eG.E Q w' l[i] cs → _) := hid hs
  have HI : Hid (∀ i w' a m d, I i w' a m d → Below B w w') := hid hI
  have HA : Hid (∀ i w' a m d o, I i w' a m d → I i (w'.alloc o) a m d) := hid hA
  have H0 : Hid (I 0 w a0 m0 d0) := hid h0
  obtain ⟨ao', n', c', e', hn, hnc, hc, _⟩ := h
  cases e'
  subst hn
  clear hs hI hA h0 hQ
  go_enter Tryz.func95, Tryz.ntmps95
  go_wp2
  go_loopw [1, 14] (fun v1 v14 wr => ∃ k : Nat, ∃ a m d, k ≤ l.length ∧ v14 = .int .i64 k ∧ v1 = .slice a m d ∧ Hid (I k wr a m d) ∧ Hid (erO er k = 0)) (fun _ i _ => l.length - (intOf i).toNat)
  case atStart => exact ⟨0, _, _, _, Nat.zero_le _, rfl, rfl, H0, hid rfl⟩
  case round =>
    obtain ⟨k, a, m, d, hk, rfl, rfl, HK, HE⟩ := hrel
    by_cases hlt : k < l.length
    · have hB := HI.out _ _ _ _ _ HK.out
      obtain ⟨_, _, _, e', _, _, _, hx⟩ := HR.out wr hB
      cases e'
      obtain ⟨b, o, rfl, hq, hi⟩ := hx (by omega)
      obtain ⟨cs, hEx, h2, h3⟩ := hi k hlt
      obtain ⟨x, hxl⟩ : ∃ x, l[k] = x := ⟨_, rfl⟩
      rw [hxl] at hEx
      have hEx' := hEx
      obtain ⟨ea, en, ec, rfl, -⟩ := hEx'
      have c0 : wr.cell? ⟨b, o + k * 7, none⟩ = some (.int .i64 x.1.1) := by exact h3 0 (show 0 < 7 by decide)
      have c1 : wr.cell? ⟨b, o + k * 7 + 1, none⟩ = some (.int .i64 x.1.2.1) := by exact h3 1 (show 1 < 7 by decide)
      have c2 : wr.cell? ⟨b, o + k * 7 + 2, none⟩ = some (.int .i64 x.1.2.2.1) := by exact h3 2 (show 2 < 7 by decide)
      have c3 : wr.cell? ⟨b, o + k * 7 + 3, none⟩ = some (.string x.1.2.2.2.1) := by exact h3 3 (show 3 < 7 by decide)
      have c4 : wr.cell? ⟨b, o + k * 7 + 4, none⟩ = some (.string x.1.2.2.2.2.1) := by exact h3 4 (show 4 < 7 by decide)
      have c5 : wr.cell? ⟨b, o + k * 7 + 5, none⟩ = some (.string x.1.2.2.2.2.2) := by exact h3 5 (show 5 < 7 by decide)
      have c6 : wr.cell? ⟨b, o + k * 7 + 6, none⟩ = some (.slice ea en ec) := by exact h3 6 (show 6 < 7 by decide)
      have hkm : (k : Int) < (l.length : Int) := by omega
      have hk5 : k ≤ 500 := by omega
      clear h2 h3 hi hx
      have HX := HS.out k hlt (wr.alloc (.cells #[.int .i64 x.1.1, .int .i64 x.1.2.1, .int .i64 x.1.2.2.1, .string x.1.2.2.2.1, .string x.1.2.2.2.2.1, .string x.1.2.2.2.2.2, .slice ea en ec] 42)) a m d [.int .i64 x.1.1, .int .i64 x.1.2.1, .int .i64 x.1.2.2.1, .string x.1.2.2.2.1, .string x.1.2.2.2.2.1, .string x.1.2.2.2.2.2, .slice ea en ec] (HA.out _ _ _ _ _ _ HK.out) (by rw [hxl]; exact eG.keep (fun b _ hl => (bal (Below.refl _ _) _).block b hl) hEx)
      have bx := Bk.new wr (.cells #[.int .i64 x.1.1, .int .i64 x.1.2.1, .int .i64 x.1.2.2.1, .string x.1.2.2.2.1, .string x.1.2.2.2.2.1, .string x.1.2.2.2.2.2, .slice ea en ec] 42)
      clear hEx hxl
      go_upto_region 4 with fail
      generalize wr.alloc (.cells #[.int .i64 x.1.1, .int .i64 x.1.2.1, .int .i64 x.1.2.2.1, .string x.1.2.2.2.1, .string x.1.2.2.2.2.1, .string x.1.2.2.2.2.2, .slice ea en ec] 42) = W at *
      have d0 := bx.cell 0
      have d1 := bx.cell 1
      have d2 := bx.cell 2
      have d3 := bx.cell 3
      have d4 := bx.cell 4
      have d5 := bx.cell 5
      have d6 := bx.cell 6
      simp only [List.getElem?_toArray, List.getElem?_cons_zero, List.getElem?_cons_succ] at d0 d1 d2 d3 d4 d5 d6
      clear bx c0 c1 c2 c3 c4 c5 c6
      obtain ⟨z, hz⟩ : ∃ z, er k = z := ⟨_, rfl⟩
      rw [hz] at HX
      have HZ : Hid (er k = z) := hid hz
      replace HX : Hid _ := hid HX
      clear hz
      go_wp2_with fail
      refine Calls.mono HX.out ?_
      rintro e w4 ⟨a2, m2, d2, rfl, hb4, hi4⟩
      have HI4 : Hid _ := hid hi4
      clear HX hi4
      by_cases h0 : z = 0
      · subst h0
        have HE2 : Hid (erO er (k + 1) = 0) := hid (by rw [erO_succ, if_pos HE.out, HZ.out])
        go_wp2
        go_roundw
        case rel => exact ⟨k + 1, a2, m2, d2, hlt, by go_num, rfl, hid (HI4.out (by first | rfl | trivial)), HE2⟩
        case measure => simp only [intOf]; omega
      · have HE2 : Hid (erO er l.length = z) := hid (by rw [erO_stop hlt HE.out (by rw [HZ.out]; exact h0), HZ.out])
        have h0' : (z != 0) = true := by simpa using h0
        have h0d : decide (z = 0) = false := by simpa using h0
        go_wp2
        refine bodyPost_ret (v := .tuple #[.slice none 0 0, .int .i64 z]) (by simp [results, Tryz.results95]) rfl ⟨none, 0, 0, by rw [HE2.out], hb4, fun h => absurd (HE2.out.symm.trans h) h0, fun _ => trivial⟩
    · obtain rfl : k = l.length := by omega
      have hB := HI.out _ _ _ _ _ HK.out
      go_wp2
      refine bodyPost_ret (v := .tuple #[.slice a m d, .int .i64 0]) (by simp [results, Tryz.results95]) rfl ⟨a, m, d, by rw [HE.out], hB, fun _ => HK.out, fun h => absurd HE.out h⟩

end Go.Proofs.YtnlaaejdianfjabGreat
namespace Go.Proofs.YtnlaaejdianfjabGreat
open Go.RowKit
set_option linter.unusedVariables false
set_option linter.unusedSimpArgs false

set_option maxRecDepth 100000 in
set_option maxHeartbeats 4000000 in
theorem foldVVasl {l : List (Vt)} (hlen : l.length ≤ 500) {B : Nat} {Q : Nat → Prop} {w : World} (hBs : B ≤ w.heap.size) (hQ : ∀ b, Q b → b < B) {ao : Option Addr} {n c : Nat} (h : RowIs eVal Q w (.slice ao n c) l) {N : Nat} {caps : Array Value} (hcf : ∀ args w', (callFunc N args).run Tryz.prog w' = .ok (.enter N args) w') (er : Nat → Int) (I : Nat → World → Option Addr → Nat → Nat → Prop)
    (hI : ∀ i w' a m d, I i w' a m d → Below B w w') (hA : ∀ i w' a m d o, I i w' a m d → I i (w'.alloc o) a m d) {a0 : Option Addr} {m0 : Nat} {d0 : Nat} (h0 : I 0 w a0 m0 d0)
    (hs : ∀ i (hi : i < l.length) (w' : World) (a : Option Addr) (m : Nat) (d : Nat) (cs : List Value), I i w' a m d → eVal.E Q w' l[i] cs → Calls Tryz.prog N (#[.slice a m d, .agg cs.toArray] ++ caps) w' fun en w'' => ∃ a2 m2 d2, en = .returned (.tuple #[.slice a2 m2 d2, .int .i64 (er i)]) ∧ Below B w w'' ∧ (er i = 0 → I (i + 1) w'' a2 m2 d2)) :
    Calls Tryz.prog 108 #[.slice ao n c, .slice a0 m0 d0, .func (.func N) #[] caps] w fun en w' => ∃ a2 m2 d2, en = .returned (.tuple #[.slice a2 m2 d2, .int .i64 (erO er l.length)]) ∧ Below B w w' ∧ (erO er l.length = 0 → I l.length w' a2 m2 d2) ∧ (erO er l.length ≠ 0 → True) := by
  have HR : Hid (∀ w', Below B w w' → RowIs eVal Q w' (.slice ao n c) l) := hid fun w' hb => h.keep (by decide) fun b hq _ => hb.block b (hQ b hq)
  have HS : Hid (∀ i (hi : i < l.length) (w' : World) (a : Option Addr) (m : Nat) (d : Nat) (cs : List Value), I i w' a m d → eVal.E Q w' l[i] cs → _) := hid hs
  have HI : Hid (∀ i w' a m d, I i w' a m d → Below B w w') := hid hI
  have HA : Hid (∀ i w' a m d o, I i w' a m d → I i (w'.alloc o) a m d) := hid hA
  have H0 : Hid (I 0 w a0 m0 d0) := hid h0
  obtain ⟨ao', n', c', e', hn, hnc, hc, _⟩ := h
  cases e'
  subst hn
  clear hs hI hA h0 hQ
  go_enter Tryz.func108, Tryz.ntmps108
  go_wp2
  go_loopw [1, 14] (fun v1 v14 wr => ∃ k : Nat, ∃ a m d, k ≤ l.length ∧ v14 = .int .i64 k ∧ v1 = .slice a m d ∧ Hid (I k wr a m d) ∧ Hid (erO er k = 0)) (fun _ i _ => l.length - (intOf i).toNat)
  case atStart => exact ⟨0, _, _, _, Nat.zero_le _, rfl, rfl, H0, hid rfl⟩
  case round =>
    obtain ⟨k, a, m, d, hk, rfl, rfl, HK, HE⟩ := hrel
    by_cases hlt : k < l.length
    · have hB := HI.out _ _ _ _ _ HK.out
      obtain ⟨_, _, _, e', _, _, _, hx⟩ := HR.out wr hB
      cases e'
      obtain ⟨b, o, rfl, hq, hi⟩ := hx (by omega)
      obtain ⟨cs, hEx, h2, h3⟩ := hi k hlt
      obtain ⟨x, hxl⟩ : ∃ x, l[k] = x := ⟨_, rfl⟩
      rw [hxl] at hEx
      have hEx' := hEx
      obtain rfl := hEx'
      have c0 : wr.cell? ⟨b, o + k * 3, none⟩ = some (.int .i64 x.1) := by exact h3 0 (show 0 < 3 by decide)
      have c1 : wr.cell? ⟨b, o + k * 3 + 1, none⟩ = some (.int .i64 x.2.1) := by exact h3 1 (show 1 < 3 by decide)
      have c2 : wr.cell? ⟨b, o + k * 3 + 2, none⟩ = some (.string x.2.2) := by exact h3 2 (show 2 < 3 by decide)
      have hkm : (k : Int) < (l.length : Int) := by omega
      have hk5 : k ≤ 500 := by omega
      clear h2 h3 hi hx
      have HX := HS.out k hlt (wr.alloc (.cells #[.int .i64 x.1, .int .i64 x.2.1, .string x.2.2] 39)) a m d [.int .i64 x.1, .int .i64 x.2.1, .string x.2.2] (HA.out _ _ _ _ _ _ HK.out) (by rw [hxl]; exact eVal.keep (fun b _ hl => (bal (Below.refl _ _) _).block b hl) hEx)
      have bx := Bk.new wr (.cells #[.int .i64 x.1, .int .i64 x.2.1, .string x.2.2] 39)
      clear hEx hxl
      go_upto_region 4 with fail
      generalize wr.alloc (.cells #[.int .i64 x.1, .int .i64 x.2.1, .string x.2.2] 39) = W at *
      have d0 := bx.cell 0
      have d1 := bx.cell 1
      have d2 := bx.cell 2
      simp only [List.getElem?_toArray, List.getElem?_cons_zero, List.getElem?_cons_succ] at d0 d1 d2
      clear bx c0 c1 c2
      obtain ⟨z, hz⟩ : ∃ z, er k = z := ⟨_, rfl⟩
      rw [hz] at HX
      have HZ : Hid (er k = z) := hid hz
      replace HX : Hid _ := hid HX
      clear hz
      go_wp2_with fail
      refine Calls.mono HX.out ?_
      rintro e w4 ⟨a2, m2, d2, rfl, hb4, hi4⟩
      have HI4 : Hid _ := hid hi4
      clear HX hi4
      by_cases h0 : z = 0
      · subst h0
        have HE2 : Hid (erO er (k + 1) = 0) := hid (by rw [erO_succ, if_pos HE.out, HZ.out])
        go_wp2
        go_roundw
        case rel => exact ⟨k + 1, a2, m2, d2, hlt, by go_num, rfl, hid (HI4.out (by first | rfl | trivial)), HE2⟩
        case measure => simp only [intOf]; omega
      · have HE2 : Hid (erO er l.length = z) := hid (by rw [erO_stop hlt HE.out (by rw [HZ.out]; exact h0), HZ.out])
        have h0' : (z != 0) = true := by simpa using h0
        have h0d : decide (z = 0) = false := by simpa using h0
        go_wp2
        refine bodyPost_ret (v := .tuple #[.slice none 0 0, .int .i64 z]) (by simp [results, Tryz.results108]) rfl ⟨none, 0, 0, by rw [HE2.out], hb4, fun h => absurd (HE2.out.symm.trans h) h0, fun _ => trivial⟩
    · obtain rfl : k = l.length := by omega
      have hB := HI.out _ _ _ _ _ HK.out
      go_wp2
      refine bodyPost_ret (v := .tuple #[.slice a m d, .int .i64 0]) (by simp [results, Tryz.results108]) rfl ⟨a, m, d, by rw [HE.out], hB, fun _ => HK.out, fun h => absurd HE.out h⟩

set_option maxRecDepth 100000 in
set_option maxHeartbeats 4000000 in
theorem foldVInin {l : List (Int)} (hlen : l.length ≤ 500) {B : Nat} {Q : Nat → Prop} {w : World} (hBs : B ≤ w.heap.size) (hQ : ∀ b, Q b → b < B) {ao : Option Addr} {n c : Nat} (h : RowIs eInt Q w (.slice ao n c) l) {N : Nat} {caps : Array Value} (hcf : ∀ args w', (callFunc N args).run Tryz.prog w' = .ok (.enter N args) w') (er : Nat → Int) (I : Nat → World → Int → Prop)
    (hI : ∀ i w' a, I i w' a → Below B w w') (hA : ∀ i w' a o, I i w' a → I i (w'.alloc o) a) {a0 : Int} (h0 : I 0 w a0)
    (hs : ∀ i (hi : i < l.length) (w' : World) (a : Int), I i w' a → Calls Tryz.prog N (#[.int .i64 a, .int .i64 l[i]] ++ caps) w' fun en w'' => ∃ a2, en = .returned (.tuple #[.int .i64 a2, .int .i64 (er i)]) ∧ Below B w w'' ∧ (er i = 0 → I (i + 1) w'' a2)) :
    Calls Tryz.prog 117 #[.slice ao n c, .int .i64 a0, .func (.func N) #[] caps] w fun en w' => ∃ a2, en = .returned (.tuple #[.int .i64 a2, .int .i64 (erO er l.length)]) ∧ Below B w w' ∧ (erO er l.length = 0 → I l.length w' a2) ∧ (erO er l.length ≠ 0 → a2 = 0) := by
  have HR : Hid (∀ w', Below B w w' → RowIs eInt Q w' (.slice ao n c) l) := hid fun w' hb => h.keep (by decide) fun b hq _ => hb.block b (hQ b hq)
  have HS : Hid (∀ i (hi : i < l.length) (w' : World) (a : Int), I i w' a → _) := hid hs
  have HI : Hid (∀ i w' a, I i w' a → Below B w w') := hid hI
  have HA : Hid (∀ i w' a o, I i w' a → I i (w'.alloc o) a) := hid hA
  have H0 : Hid (I 0 w a0) := hid h0
  obtain ⟨ao', n', c', e', hn, hnc, hc, _⟩ := h
  cases e'
  subst hn
  clear hs hI hA h0 hQ
  go_enter Tryz.func117, Tryz.ntmps117
  go_wp2
  go_loopw [1, 14] (fun v1 v14 wr => ∃ k : Nat, ∃ a, k ≤ l.length ∧ v14 = .int .i64 k ∧ v1 = .int .i64 a ∧ Hid (I k wr a) ∧ Hid (erO er k = 0)) (fun _ i _ => l.length - (intOf i).toNat)
  case atStart => exact ⟨0, _, Nat.zero_le _, rfl, rfl, H0, hid rfl⟩
  case round =>
    obtain ⟨k, a, hk, rfl, rfl, HK, HE⟩ := hrel
    by_cases hlt : k < l.length
    · have hB := HI.out _ _ _ HK.out
      obtain ⟨_, _, _, e', _, _, _, hx⟩ := HR.out wr hB
      cases e'
      obtain ⟨b, o, rfl, hq, hi⟩ := hx (by omega)
      obtain ⟨cs, hEx, h2, h3⟩ := hi k hlt
      obtain ⟨x, hxl⟩ : ∃ x, l[k] = x := ⟨_, rfl⟩
      rw [hxl] at hEx
      have hEx' := hEx
      obtain rfl := hEx'
      have c0 : wr.cell? ⟨b, o + k, none⟩ = some (.int .i64 x) := by have := h3 0 (show 0 < 1 by decide); simpa [eInt] using this
      have hkm : (k : Int) < (l.length : Int) := by omega
      have hk5 : k ≤ 500 := by omega
      clear h2 h3 hi hx
      have HX := HS.out k hlt wr a HK.out
      rw [hxl] at HX
      clear hEx hxl
      obtain ⟨z, hz⟩ : ∃ z, er k = z := ⟨_, rfl⟩
      rw [hz] at HX
      have HZ : Hid (er k = z) := hid hz
      replace HX : Hid _ := hid HX
      clear hz
      go_wp2_with fail
      refine Calls.mono HX.out ?_
      rintro e w4 ⟨a2, rfl, hb4, hi4⟩
      have HI4 : Hid _ := hid hi4
      clear HX hi4
      by_cases h0 : z = 0
      · subst h0
        have HE2 : Hid (erO er (k + 1) = 0) := hid (by rw [erO_succ, if_pos HE.out, HZ.out])
        go_wp2
        go_roundw
        case rel => exact ⟨k + 1, a2, hlt, by go_num, rfl, hid (HI4.out (by first | rfl | trivial)), HE2⟩
        case measure => simp only [intOf]; omega
      · have HE2 : Hid (erO er l.length = z) := hid (by rw [erO_stop hlt HE.out (by rw [HZ.out]; exact h0), HZ.out])
        have h0' : (z != 0) = true := by simpa using h0
        have h0d : decide (z = 0) = false := by simpa using h0
        go_wp2
        refine bodyPost_ret (v := .tuple #[.int .i64 0, .int .i64 z]) (by simp [results, Tryz.results117]) rfl ⟨0, by rw [HE2.out], hb4, fun h => absurd (HE2.out.symm.trans h) h0, fun _ => rfl⟩
    · obtain rfl : k = l.length := by omega
      have hB := HI.out _ _ _ HK.out
      go_wp2
      refine bodyPost_ret (v := .tuple #[.int .i64 a, .int .i64 0]) (by simp [results, Tryz.results117]) rfl ⟨a, by rw [HE.out], hB, fun _ => HK.out, fun h => absurd HE.out h⟩

end Go.Proofs.YtnlaaejdianfjabGreat
