import Derived.Test.YtljmlacnfnmjbaaGreatTqal
import Derived.Test.YtljmlacnfnmjbaaGreatTqak
import Derived.Deep.Slices
import Derived.Deep.Strs
namespace Go.Proofs.YtljmlacnfnmjbaaGreat
open Go.ChangeShapes Go.WideShapes Go.ChangeAt Go.RowKit
set_option linter.unusedVariables false
set_option linter.unusedSimpArgs false

def fromL : List (Pg × Tg) → Tg
  | [] => .nil
  | x :: l => .node 0 0 x.1 x.2 (fromL l)
theorem toL_from : ∀ l : List (Pg × Tg), toL (fromL l) = l
  | [] => rfl
  | x :: l => by rw [fromL, toL, toL_from l]
theorem fog_of {W : World} : ∀ {l : List (Pg × Tg)} {b o : Nat}, (∀ i (h : i < l.length), ∃ a n c, Ce W b (o + i * 7) l[i].1.1 l[i].1.2 (.slice a n c) ∧ SlF (fun _ => True) W a n c l[i].2) → FoG (fun _ => True) W (fromL l) b o
  | [], b, o, _ => trivial
  | x :: l, b, o, h => by
    obtain ⟨a, n, c, h1, h2, h3, h4, h5⟩ := h 0 (by simp)
    refine ⟨⟨a, n, c, by simpa using h1, h2, h3, h4, h5⟩, fog_of fun i hi => ?_⟩
    obtain ⟨a', n', c', g1, g2⟩ := h (i + 1) (by simpa using hi)
    refine ⟨a', n', c', ?_, by simpa using g2⟩
    rw [show o + 7 + i * 7 = o + (i + 1) * 7 from by omega]
    simpa using g1
theorem c28 : Tryz.prog.cellsOf 28 = 7 := by kernel_rfl
theorem c25 : Tryz.prog.cellsOf 25 = 3 := by kernel_rfl
theorem c26 : Tryz.prog.cellsOf 26 = 1 := by kernel_rfl
theorem c3x : Tryz.prog.cellsOf 3 = 1 := by kernel_rfl
theorem c2x : Tryz.prog.cellsOf 2 = 1 := by kernel_rfl
theorem c9x : Tryz.prog.cellsOf 9 = 1 := by kernel_rfl
theorem addr_at (b o m : Nat) : (⟨b, o, none⟩ : Addr).add m = ⟨b, o + m, none⟩ := by unfold Addr.add; split <;> simp_all
set_option maxRecDepth 100000 in
theorem open_expr {H : Type} {enc : TypeId × Value → H} {W : World} {base : Nat} {sp : Nat → Bool} {held : Bool} : ∀ (fuel : Nat) (cs : List Value) (y : DataW H × List MemPlace), DataW.trod enc Tryz.prog W base sp held fuel 28 cs = some y → ∃ (x : Pg × Tg) (a : Option Addr) (n c : Nat), cs = exC x.1.1 x.1.2 (.slice a n c) ∧ SlF (fun _ => True) W a n c x.2 := by
  intro fuel
  induction fuel using Nat.strongRecOn with
  | _ fuel ih =>
    intro cs y h
    obtain ⟨xs, n, rfl, -, hl, hlen, hf⟩ := DataW.trod_struct Tryz.underlying28 h
    rw [c28] at hl
    match cs, hl with
    | [v0, v1, v2, v3, v4, v5, v6], _ =>
    have hlen5 : xs.length = 5 := hlen
    match xs, hlen5 with
    | [x0, x1, x2, x3, x4], _ =>
    have h0 := hf 0 _ rfl
    have h1 := hf 1 _ rfl
    have h2 := hf 2 _ rfl
    have h3 := hf 3 _ rfl
    have h4 := hf 4 _ rfl
    simp only [c25, c26, c3x, c9x, List.drop_zero, List.take_succ_cons, List.take_zero, List.drop_succ_cons, List.getElem?_cons_zero, List.getElem?_cons_succ] at h0 h1 h2 h3 h4
    obtain ⟨op, e0, -, w0⟩ := DataW.trod_int Tryz.underlying3 h0
    obtain ⟨y0, y1, y2, k, -, -, hy0, hy1, hy2⟩ := Go.Deep.trod_struct3 Tryz.underlying25 h1
    simp only [c2x, c3x, c9x, List.drop_zero, List.take_succ_cons, List.take_zero, List.drop_succ_cons] at hy0 hy1 hy2
    obtain ⟨k1, e1, -, w1⟩ := DataW.trod_int Tryz.underlying3 hy0
    obtain ⟨k2, e2, -, w2⟩ := DataW.trod_int Tryz.underlying2 hy1
    obtain ⟨k3, e3, -, w3⟩ := DataW.trod_string Tryz.underlying9 hy2
    obtain ⟨k4, e4, -, w4⟩ := DataW.trod_string Tryz.underlying9 h2
    obtain ⟨k5, e5, -, w5⟩ := DataW.trod_string Tryz.underlying9 h3
    cases e0
    cases e1
    cases e2
    cases e3
    cases e4
    cases e5
    rcases DataW.trod_slice Tryz.underlying26 h4 with ⟨hs, -⟩ | ⟨a, len, cap, elems, rest, m, hm0, hs, -, hb, hlc, hcm, hel, hg, -, -⟩
    · cases hs
      exact ⟨((op, k1, k2, k3, k4, k5), .nil), none, 0, 0, rfl, rfl, Nat.le_refl _, by omega, fun h => absurd h (Nat.lt_irrefl _)⟩
    · cases hs
      subst hm0
      haveI : Inhabited (Pg × Tg) := ⟨((0, 0, 0, ⟨#[]⟩, ⟨#[]⟩, ⟨#[]⟩), .nil)⟩
      have one : ∀ i, i < len → ∃ x : Pg × Tg, ∃ a' n' c', (∀ j, j < 7 → W.cell? ((a.add (i * 7)).add j) = (exC x.1.1 x.1.2 (.slice a' n' c'))[j]?) ∧ SlF (fun _ => True) W a' n' c' x.2 := by
        intro i hi
        have hgi := hg i hi
        rw [c28, List.getElem?_eq_getElem (by omega)] at hgi
        rw [Option.bind_eq_some_iff] at hgi
        obtain ⟨cs', g1, g2⟩ := hgi
        obtain ⟨x, a', n', c', rfl, hsl⟩ := ih m (by omega) cs' _ g2
        obtain ⟨-, -, hcell⟩ := World.cells?_some g1
        exact ⟨x, a', n', c', hcell, hsl⟩
      obtain ⟨f, hfn⟩ := Go.Deep.choose_lt (α := Pg × Tg) one
      have hll : ((List.range len).map f).length = len := by simp
      refine ⟨((op, k1, k2, k3, k4, k5), fromL ((List.range len).map f)), some a, len, cap, rfl, by rw [toL_from]; exact hll, hlc, by simpa [maxLen] using hcm, fun hp => ?_⟩
      obtain ⟨b, off, spot⟩ := a
      obtain ⟨a0, n0, c0, hc0, -⟩ := hfn 0 hp
      have h00 := hc0 0 (by decide)
      have hspot : spot = none := by simpa [Addr.add] using World.cell?_spot h00
      subst hspot
      refine ⟨b, off, rfl, trivial, fog_of fun i hi => ?_⟩
      rw [hll] at hi
      obtain ⟨a', n', c', hc, hsl⟩ := hfn i hi
      have e : ((List.range len).map f)[i]'(by rw [hll]; exact hi) = f i := by simp
      rw [e]
      have hcj : ∀ j, j < 7 → W.cell? ⟨b, off + i * 7 + j, none⟩ = (exC (f i).1.1 (f i).1.2 (.slice a' n' c'))[j]? := fun j hj => by
        have := hc j hj
        rw [addr_at, addr_at] at this
        exact this
      exact ⟨a', n', c', ⟨hcj 0 (by decide), hcj 1 (by decide), hcj 2 (by decide), hcj 3 (by decide), hcj 4 (by decide), hcj 5 (by decide), hcj 6 (by decide)⟩, hsl⟩

end Go.Proofs.YtljmlacnfnmjbaaGreat
namespace Go.Proofs.YtljmlacnfnmjbaaGreat
open Go.RowKit
set_option linter.unusedVariables false
set_option linter.unusedSimpArgs false

/-- Nodes tells some number. -/
def NodesC (x : Pg × Tg) : Prop := ∀ (Q : Nat → Prop) (w : World) (cs : List Value), eG.E Q w x cs → Calls Tryz.prog 10 #[.agg cs.toArray] w fun en w' => ∃ z, en = .returned (.int .i64 z) ∧ Below w.heap.size w w'

set_option maxRecDepth 100000 in
set_option maxHeartbeats 4000000 in
theorem nodes_step (x : Pg × Tg) (ih : ∀ y ∈ toL x.2, NodesC y) : NodesC x := by
  intro Q w cs hx
  obtain ⟨ea, en, ec, rfl, hsl⟩ := hx
  have hlen := hsl.1
  have hec := hsl.2.1
  have hecm := hsl.2.2.1
  simp only [exC] at *
  have hw := bal (Below.refl w.heap.size w) (.cells #[.int .i64 x.1.1, .int .i64 x.1.2.1, .int .i64 x.1.2.2.1, .string x.1.2.2.2.1, .string x.1.2.2.2.2.1, .string x.1.2.2.2.2.2, .slice ea en ec] 28)
  have bx := Bk.new w (.cells #[.int .i64 x.1.1, .int .i64 x.1.2.1, .int .i64 x.1.2.2.1, .string x.1.2.2.2.1, .string x.1.2.2.2.2.1, .string x.1.2.2.2.2.2, .slice ea en ec] 28)
  generalize hW : w.alloc (.cells #[.int .i64 x.1.1, .int .i64 x.1.2.1, .int .i64 x.1.2.2.1, .string x.1.2.2.2.1, .string x.1.2.2.2.2.1, .string x.1.2.2.2.2.2, .slice ea en ec] 28) = W at hw bx
  have d0 := bx.cell 0
  have d1 := bx.cell 1
  have d2 := bx.cell 2
  have d3 := bx.cell 3
  have d4 := bx.cell 4
  have d5 := bx.cell 5
  have d6 := bx.cell 6
  simp only [List.getElem?_toArray, List.getElem?_cons_zero, List.getElem?_cons_succ] at d0 d1 d2 d3 d4 d5 d6
  have HAr : Hid (∀ w', Below W.heap.size W w' → RowIs eG Q w' (.slice ea en ec) (toL x.2)) := hid fun w' hb => hsl.row.keep (by decide) fun b _ hl => (Below.on hw hb).block b hl
  have HIH : Hid _ := hid ih
  clear hsl ih bx
  go_enter Tryz.func10, Tryz.ntmps10
  go_upto_region 1 with fail
  go_wp2
  clear hW
  generalize w.heap.size = q at d0 d1 d2 d3 d4 d5 d6 ⊢
  go_loopw [3, 4] (fun v3 v4 wr => ∃ (k : Nat) (z : Int), k ≤ en ∧ v4 = .int .i64 k ∧ v3 = .int .i64 z ∧ Below W.heap.size W wr) (fun _ i _ => en - (intOf i).toNat)
  case atStart => exact ⟨0, 1, Nat.zero_le _, rfl, rfl, Below.refl _ _⟩
  case round =>
    obtain ⟨k, z, hk, rfl, rfl, hB⟩ := hrel
    have z6 := cell_later hB d6
    by_cases hlt : k < en
    · obtain ⟨_, _, _, e', _, _, _, hx⟩ := HAr.out wr hB
      cases e'
      obtain ⟨b, o, rfl, -, hxi⟩ := hx (by omega)
      obtain ⟨cs, hE, -, hcc⟩ := hxi k (by omega)
      have hIH := HIH.out _ (List.getElem_mem (l := toL x.2) (n := k) (by omega)) Q wr cs hE
      obtain ⟨y, hy⟩ : ∃ y, (toL x.2)[k]'(by omega) = y := ⟨_, rfl⟩
      rw [hy] at hE
      obtain ⟨ya, yn, yc, rfl, -⟩ := hE
      simp only [exC] at hcc hIH
      have e0 : wr.cell? ⟨b, o + k * 7, none⟩ = some (.int .i64 y.1.1) := hcc 0 (show 0 < 7 by decide)
      have e1 : wr.cell? ⟨b, o + k * 7 + 1, none⟩ = some (.int .i64 y.1.2.1) := hcc 1 (show 1 < 7 by decide)
      have e2 : wr.cell? ⟨b, o + k * 7 + 2, none⟩ = some (.int .i64 y.1.2.2.1) := hcc 2 (show 2 < 7 by decide)
      have e3 : wr.cell? ⟨b, o + k * 7 + 3, none⟩ = some (.string y.1.2.2.2.1) := hcc 3 (show 3 < 7 by decide)
      have e4 : wr.cell? ⟨b, o + k * 7 + 4, none⟩ = some (.string y.1.2.2.2.2.1) := hcc 4 (show 4 < 7 by decide)
      have e5 : wr.cell? ⟨b, o + k * 7 + 5, none⟩ = some (.string y.1.2.2.2.2.2) := hcc 5 (show 5 < 7 by decide)
      have e6 : wr.cell? ⟨b, o + k * 7 + 6, none⟩ = some (.slice ya yn yc) := hcc 6 (show 6 < 7 by decide)
      have hkm : (k : Int) < (en : Int) := by omega
      have hwk : IntKind.i64.wrap ((k : Int) + 1) = (k : Int) + 1 := by
        show (if (true && decide (((k : Int) + 1) % (2 ^ 64 : Int) ≥ (2 ^ (64 - 1) : Int))) = true then ((k : Int) + 1) % (2 ^ 64 : Int) - (2 ^ 64 : Int) else ((k : Int) + 1) % (2 ^ 64 : Int)) = _
        rw [if_neg (by simp; omega)]
        omega
      replace hIH : Hid _ := hid hIH
      clear hcc hxi hx hy
      go_wp2_with fail
      refine Calls.mono hIH.out ?_
      rintro e w4 ⟨z2, rfl, hb4⟩
      have hB4 := Below.on hB hb4
      clear hIH e0 e1 e2 e3 e4 e5 e6 z6 hb4
      go_wp2
      go_roundw
      case rel => exact ⟨k + 1, _, by omega, by simp, rfl, hB4⟩
      case measure => simp only [intOf]; omega
    · obtain rfl : k = en := by omega
      go_wp2
      go_ret
      exact ⟨z, rfl, Below.on hw hB⟩
theorem nodes_all : ∀ f : Tg, ∀ x ∈ toL f, NodesC x := by
  intro f
  induction f with
  | nil => intro x hx; simp [toL] at hx
  | node a b p l r ihl ihr =>
    intro x hx
    rw [toL, List.mem_cons] at hx
    rcases hx with rfl | hx
    · exact nodes_step (p, l) ihl
    · exact ihr x hx
theorem nodes_any (x : Pg × Tg) : NodesC x := nodes_step x (nodes_all x.2)

set_option maxRecDepth 100000 in
set_option maxHeartbeats 4000000 in
theorem typedKinds_any (C : List It) (K : List Int) (x : Pg × Tg) {w : World} {a : Option Addr} {n c : Nat} {ka : Option Addr} {kn kc : Nat} {ea : Option Addr} {en ec : Nat} (hR : RowIs eItem (fun _ => True) w (.slice a n c) C) (hK : RowIs eInt (fun _ => True) w (.slice ka kn kc) K) (hsl : SlF (fun _ => True) w ea en ec x.2) :
    Calls Tryz.prog 3 #[.slice a n c, .slice ka kn kc, .agg #[.int .i64 x.1.1, .int .i64 x.1.2.1, .int .i64 x.1.2.2.1, .string x.1.2.2.2.1, .string x.1.2.2.2.2.1, .string x.1.2.2.2.2.2, .slice ea en ec]] w fun e w' => e = .returned (.bool true) ∧ Below w.heap.size w w' := by
  obtain ⟨l1, l2, l3⟩ := hR.lens
  obtain ⟨r1, r2, r3⟩ := hK.lens
  have hx : eG.E (fun _ => True) w x [.int .i64 x.1.1, .int .i64 x.1.2.1, .int .i64 x.1.2.2.1, .string x.1.2.2.2.1, .string x.1.2.2.2.2.1, .string x.1.2.2.2.2.2, .slice ea en ec] := ⟨ea, en, ec, rfl, hsl⟩
  have hw := bal (Below.refl w.heap.size w) (.cells #[.int .i64 x.1.1, .int .i64 x.1.2.1, .int .i64 x.1.2.2.1, .string x.1.2.2.2.1, .string x.1.2.2.2.2.1, .string x.1.2.2.2.2.2, .slice ea en ec] 28)
  have bx := Bk.new w (.cells #[.int .i64 x.1.1, .int .i64 x.1.2.1, .int .i64 x.1.2.2.1, .string x.1.2.2.2.1, .string x.1.2.2.2.2.1, .string x.1.2.2.2.2.2, .slice ea en ec] 28)
  generalize hW : w.alloc (.cells #[.int .i64 x.1.1, .int .i64 x.1.2.1, .int .i64 x.1.2.2.1, .string x.1.2.2.2.1, .string x.1.2.2.2.2.1, .string x.1.2.2.2.2.2, .slice ea en ec] 28) = W at hw bx
  have d0 := bx.cell 0
  have d1 := bx.cell 1
  have d2 := bx.cell 2
  have d3 := bx.cell 3
  have d4 := bx.cell 4
  have d5 := bx.cell 5
  have d6 := bx.cell 6
  simp only [List.getElem?_toArray, List.getElem?_cons_zero, List.getElem?_cons_succ] at d0 d1 d2 d3 d4 d5 d6
  have H0 : Hid _ := hid (begun10_any W)
  have HN : Hid (∀ w', Below W.heap.size W w' → _) := hid fun w' hb => nodes_any x (fun _ => True) w' [.int .i64 x.1.1, .int .i64 x.1.2.1, .int .i64 x.1.2.2.1, .string x.1.2.2.2.1, .string x.1.2.2.2.2.1, .string x.1.2.2.2.2.2, .slice ea en ec] (eG.keep (fun b _ hl => (Below.on hw hb).block b hl) hx)
  have H1 : Hid (C.length ≤ 500 → ∀ w', Below W.heap.size W w' → _) := hid fun h5 w' hb => Kind_any h5 x (hR.keep (w' := w') (by decide) fun b _ hl => (Below.on hw hb).block b hl) (hK.keep (w' := w') (by decide) fun b _ hl => (Below.on hw hb).block b hl) (cs := [.int .i64 x.1.1, .int .i64 x.1.2.1, .int .i64 x.1.2.2.1, .string x.1.2.2.2.1, .string x.1.2.2.2.2.1, .string x.1.2.2.2.2.2, .slice ea en ec]) (eG.keep (fun b _ hl => (Below.on hw hb).block b hl) hx)
  have H2 : Hid (C.length ≤ 500 → K.length ≤ 500 → ∀ w', Below W.heap.size W w' → _) := hid fun h5 h6 w' hb => rkind_any h5 h6 x (fun _ => True) w' [.int .i64 x.1.1, .int .i64 x.1.2.1, .int .i64 x.1.2.2.1, .string x.1.2.2.2.1, .string x.1.2.2.2.2.1, .string x.1.2.2.2.2.2, .slice ea en ec] a n c ka kn kc (hR.keep (w' := w') (by decide) fun b _ hl => (Below.on hw hb).block b hl) (hK.keep (w' := w') (by decide) fun b _ hl => (Below.on hw hb).block b hl) (eG.keep (fun b _ hl => (Below.on hw hb).block b hl) hx)
  generalize (kdT (pairP C K) x).1 = z1 at *
  generalize (kdT (pairP C K) x).2 = z2 at *
  clear hR hK hsl hx bx
  go_enter Tryz.func3, Tryz.ntmps3
  go_upto_region 1 with fail
  go_wp2_with fail
  refine Calls.mono H0.out ?_
  rintro e U ⟨rfl, hb⟩
  replace d0 := cell_later hb d0
  replace d1 := cell_later hb d1
  replace d2 := cell_later hb d2
  replace d3 := cell_later hb d3
  replace d4 := cell_later hb d4
  replace d5 := cell_later hb d5
  replace d6 := cell_later hb d6
  clear H0 hW
  generalize w.heap.size = q at d0 d1 d2 d3 d4 d5 d6 ⊢
  by_cases h1 : n ≤ 20
  · have g1 : ¬ (20 : Int) < (n : Int) := by omega
    have g1d : decide ((20 : Int) < (n : Int)) = false := by simpa using g1
    by_cases h2 : kn ≤ 20
    · have g2 : ¬ (20 : Int) < (kn : Int) := by omega
      have g2d : decide ((20 : Int) < (kn : Int)) = false := by simpa using g2
      have HN2 : Hid _ := hid (HN.out U hb)
      go_wp2_with fail
      refine Calls.mono HN2.out ?_
      rintro e U1 ⟨z, rfl, hb1⟩
      have hB1 := Below.on hb hb1
      replace d0 := cell_later hb1 d0
      replace d1 := cell_later hb1 d1
      replace d2 := cell_later hb1 d2
      replace d3 := cell_later hb1 d3
      replace d4 := cell_later hb1 d4
      replace d5 := cell_later hb1 d5
      replace d6 := cell_later hb1 d6
      clear HN HN2 hb1
      by_cases h3 : z ≤ 300
      · have g3 : ¬ (300 : Int) < z := by omega
        have g3d : decide ((300 : Int) < z) = false := by simpa using g3
        have G1 : Hid _ := hid (H1.out (by omega) U1 hB1)
        go_wp2_with fail
        refine Calls.mono G1.out ?_
        rintro e U2 ⟨rfl, hb2⟩
        have hB2 := Below.on hB1 hb2
        replace d0 := cell_later hb2 d0
        replace d1 := cell_later hb2 d1
        replace d2 := cell_later hb2 d2
        replace d3 := cell_later hb2 d3
        replace d4 := cell_later hb2 d4
        replace d5 := cell_later hb2 d5
        replace d6 := cell_later hb2 d6
        have G2 : Hid _ := hid (H2.out (by omega) (by omega) U2 hB2)
        clear G1 H1 H2 hb2
        go_wp2_with fail
        refine Calls.mono G2.out ?_
        rintro e U3 ⟨rfl, hb3⟩
        clear G2 d0 d1 d2 d3 d4 d5 d6
        go_wp2
        go_ret
        exact ⟨rfl, Below.on hw (Below.on hB2 hb3)⟩
      · have g3 : (300 : Int) < z := by omega
        clear H1 H2
        go_wp2
        go_ret
        exact ⟨rfl, Below.on hw hB1⟩
    · have g2 : (20 : Int) < (kn : Int) := by omega
      clear H1 H2 HN
      go_wp2
      go_ret
      exact ⟨rfl, Below.on hw hb⟩
  · have g1 : (20 : Int) < (n : Int) := by omega
    clear H1 H2 HN
    go_wp2
    go_ret
    exact ⟨rfl, Below.on hw hb⟩

end Go.Proofs.YtljmlacnfnmjbaaGreat
namespace Go.Proofs.YtljmlacnfnmjbaaGreat
open Go.ChangeShapes Go.WideShapes Go.ChangeAt Go.RowKit
set_option linter.unusedVariables false
set_option linter.unusedSimpArgs false

theorem c66 : Tryz.prog.cellsOf 66 = 3 := by kernel_rfl
set_option maxRecDepth 100000 in
theorem open_items {H : Type} {enc : TypeId × Value → H} {W : World} {r : Reach} {b0 base : Nat} {sp : Nat → Bool} {held : Bool} {v : Value} {d : DataW H} {ps : List MemPlace} (hval : Value.okWide Tryz.prog W r b0 22 v) (hd : DataW.Trod enc Tryz.prog W base sp held 22 v d ps) :
    ∃ a len cap, ∃ C : List It, v = .slice a len cap ∧ RowIs eItem (fun _ => True) W (.slice a len cap) C := by
  obtain ⟨a, len, cap, rfl⟩ := okWide_slice Tryz.underlying22 hval
  obtain ⟨fuel, hf⟩ := hd
  rcases Go.Deep.open_slice Tryz.underlying22 hf with ⟨hcs, _⟩ | ⟨x, l, c, m, nn, D, Pl, hcs, hb, hl, hm, hmm, _, hx⟩
  · simp [Value.cells] at hcs
    obtain ⟨rfl, rfl, rfl⟩ := hcs
    exact ⟨none, 0, 0, [], rfl, RowIs.nil _ _ _⟩
  · simp [Value.cells] at hcs
    obtain ⟨rfl, rfl, rfl⟩ := hcs
    have hlm : len ≤ m := by rw [hmm]; split <;> omega
    have one : ∀ i, i < len → ∃ u : It, ∀ j, j < 3 → W.cell? ((x.add (i * 3)).add j) = ([.int .i64 u.1, .string u.2.1, .string u.2.2] : List Value)[j]? := by
      intro i hi
      obtain ⟨cs, h1, h2⟩ := hx i (by omega)
      rw [c66] at h1
      obtain ⟨_, hlen, hcell⟩ := World.cells?_some h1
      match cs, hlen with
      | [c0, c1, c2], _ =>
      obtain ⟨y0, y1, y2, k, _, _, hy0, hy1, hy2⟩ := Go.Deep.trod_struct3 Tryz.underlying66 h2
      simp only [c3x, c9x, List.drop_zero, List.take_succ_cons, List.take_zero, List.drop_succ_cons] at hy0 hy1 hy2
      obtain ⟨a0, e0, _, wa⟩ := DataW.trod_int Tryz.underlying3 hy0
      obtain ⟨s1, e1, _, w1⟩ := DataW.trod_string Tryz.underlying9 hy1
      obtain ⟨s2, e2, _, w2⟩ := DataW.trod_string Tryz.underlying9 hy2
      cases e0
      cases e1
      cases e2
      exact ⟨(a0, s1, s2), hcell⟩
    obtain ⟨f, hfn⟩ := Go.Deep.choose_lt (α := It) one
    refine ⟨some x, len, cap, (List.range len).map f, rfl, some x, len, cap, rfl, by simp, hl, by simpa [maxLen] using hm, fun hp => ?_⟩
    obtain ⟨b, off, spot⟩ := x
    have h0 := hfn 0 hp 0 (by decide)
    have hspot : spot = none := by simpa [Addr.add] using World.cell?_spot h0
    subst hspot
    refine ⟨b, off, rfl, trivial, fun i hi => ⟨_, rfl, rfl, fun j hj => ?_⟩⟩
    have hi' : i < len := by simpa using hi
    have hj' : j < 3 := hj
    have := hfn i hi' j hj'
    rw [addr_at, addr_at] at this
    refine this.trans ?_
    rw [show ((List.range len).map f)[i] = f i from by simp]
    match j, hj' with
    | 0, _ => rfl
    | 1, _ => rfl
    | 2, _ => rfl
set_option maxRecDepth 100000 in
theorem open_intsR {H : Type} {enc : TypeId × Value → H} {W : World} {r : Reach} {b0 base : Nat} {sp : Nat → Bool} {held : Bool} {v : Value} {d : DataW H} {ps : List MemPlace} (hval : Value.okWide Tryz.prog W r b0 23 v) (hd : DataW.Trod enc Tryz.prog W base sp held 23 v d ps) :
    ∃ a len cap, ∃ K : List Int, v = .slice a len cap ∧ RowIs eInt (fun _ => True) W (.slice a len cap) K := by
  obtain ⟨a, len, cap, rfl⟩ := okWide_slice Tryz.underlying23 hval
  obtain ⟨fuel, hf⟩ := hd
  rcases Go.Deep.open_slice Tryz.underlying23 hf with ⟨hcs, _⟩ | ⟨x, l, c, m, nn, D, Pl, hcs, hb, hl, hm, hmm, _, hx⟩
  · simp [Value.cells] at hcs
    obtain ⟨rfl, rfl, rfl⟩ := hcs
    exact ⟨none, 0, 0, [], rfl, RowIs.nil _ _ _⟩
  · simp [Value.cells] at hcs
    obtain ⟨rfl, rfl, rfl⟩ := hcs
    have hlm : len ≤ m := by rw [hmm]; split <;> omega
    have one : ∀ i, i < len → ∃ u : Int, W.cell? ((x.add (i * 1)).add 0) = some (.int .i64 u) := by
      intro i hi
      obtain ⟨cs, h1, h2⟩ := hx i (by omega)
      rw [c3x] at h1
      obtain ⟨_, hlen, hcell⟩ := World.cells?_some h1
      obtain ⟨a0, e0, _, wa⟩ := DataW.trod_int Tryz.underlying3 h2
      cases e0
      exact ⟨a0, hcell 0 (by decide)⟩
    obtain ⟨f, hfn⟩ := Go.Deep.choose_lt (α := Int) one
    refine ⟨some x, len, cap, (List.range len).map f, rfl, some x, len, cap, rfl, by simp, hl, by simpa [maxLen] using hm, fun hp => ?_⟩
    obtain ⟨b, off, spot⟩ := x
    have h0 := hfn 0 hp
    have hspot : spot = none := by simpa [Addr.add] using World.cell?_spot h0
    subst hspot
    refine ⟨b, off, rfl, trivial, fun i hi => ⟨_, rfl, rfl, fun j hj => ?_⟩⟩
    have hi' : i < len := by simpa using hi
    have hj' : j < 1 := hj
    have := hfn i hi'
    rw [addr_at, addr_at] at this
    match j, hj' with
    | 0, _ =>
      refine this.trans ?_
      rw [show ((List.range len).map f)[i] = f i from by simp]
      rfl
set_option maxRecDepth 100000 in
theorem open_exprV {H : Type} {enc : TypeId × Value → H} {W : World} {r : Reach} {b0 base : Nat} {sp : Nat → Bool} {held : Bool} {v : Value} {d : DataW H} {ps : List MemPlace} (hval : Value.okWide Tryz.prog W r b0 28 v) (hd : DataW.Trod enc Tryz.prog W base sp held 28 v d ps) :
    ∃ (x : Pg × Tg) (ea : Option Addr) (en ec : Nat), v = .agg #[.int .i64 x.1.1, .int .i64 x.1.2.1, .int .i64 x.1.2.2.1, .string x.1.2.2.2.1, .string x.1.2.2.2.2.1, .string x.1.2.2.2.2.2, .slice ea en ec] ∧ SlF (fun _ => True) W ea en ec x.2 := by
  obtain ⟨cs, rfl, hsz⟩ := okWide_struct Tryz.underlying28 hval
  obtain ⟨fuel, hf⟩ := hd
  obtain ⟨x, a, n, c, hcs, hs⟩ := open_expr fuel _ _ hf
  refine ⟨x, a, n, c, ?_, hs⟩
  have : cs.toList = exC x.1.1 x.1.2 (.slice a n c) := by simpa [Value.cells] using hcs
  obtain ⟨l⟩ := cs
  have hl : l = exC x.1.1 x.1.2 (.slice a n c) := this
  subst hl
  rfl

end Go.Proofs.YtljmlacnfnmjbaaGreat
