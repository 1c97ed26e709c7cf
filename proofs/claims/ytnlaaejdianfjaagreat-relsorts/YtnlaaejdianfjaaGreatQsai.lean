import Derived.Test.YtnlaaejdianfjaaGreatQsah
import Derived.RangeFuncNested
import Derived.RangeFuncLeaves
import Derived.WalkKit
import Derived.Shelf.Abstract
import Derived.OwnWalkIn
import Derived.TacticsInMore
import Derived.LoopNIn
import Derived.LoopIn
namespace Go.Proofs.YtnlaaejdianfjaaGreat
open Go.ChangeShapes Go.WideShapes Go.ChangeAt Go.RowKit
set_option linter.unusedVariables false
set_option linter.unusedSimpArgs false

theorem cRow : Tryz.prog.cellsOf 42 = 1 := by kernel_rfl
set_option maxRecDepth 100000 in
/-- A row of values among what came in, by its head. -/
theorem in_values {H : Type} {enc : TypeId × Value → H} {W : World} {base : Nat} {sp : Nat → Bool} {held : Bool} {fuel : Nat} {cs : List Value} {y : DataW H × List MemPlace} (hf : DataW.trod enc Tryz.prog W base sp held fuel 42 cs = some y) :
    ∃ a len cap, ∃ V : List Vt, cs = [.slice a len cap] ∧ RowIs eVal (fun _ => True) W (.slice a len cap) V ∧ ∀ v ∈ V, Fits v.2.1 ∧ v.2.2.size ≤ maxLen := by
  rcases Go.Deep.open_slice Tryz.underlying42 hf with ⟨hcs, _⟩ | ⟨x, len, cap, m, nn, D, Pl, hcs, hb, hl, hm, hmm, _, hx⟩
  · exact ⟨none, 0, 0, [], hcs, RowIs.nil _ _ _, fun v hv => by simp at hv⟩
  · have hlm : len ≤ m := by rw [hmm]; split <;> omega
    have one : ∀ i, i < len → ∃ u : Vt, (∀ j, j < 3 → W.cell? ((x.add (i * 3)).add j) = ([.int .i64 u.1, .int .i64 u.2.1, .string u.2.2] : List Value)[j]?) ∧ Fits u.2.1 ∧ u.2.2.size ≤ maxLen := by
      intro i hi
      obtain ⟨cs, h1, h2⟩ := hx i (by omega)
      rw [cVal] at h1
      obtain ⟨_, hlen, hcell⟩ := World.cells?_some h1
      match cs, hlen with
      | [c0, c1, c2], _ =>
      obtain ⟨y0, y1, y2, k, _, _, hy0, hy1, hy2⟩ := Go.Deep.trod_struct3 Tryz.underlying44 h2
      simp only [cInt, cI64, cStr, List.drop_zero, List.take_succ_cons, List.take_zero, List.drop_succ_cons] at hy0 hy1 hy2
      obtain ⟨a0, e0, _, wa⟩ := DataW.trod_int Tryz.underlying3 hy0
      obtain ⟨s1, e1, _, w1⟩ := DataW.trod_int Tryz.underlying2 hy1
      obtain ⟨s2, e2, _, w2⟩ := DataW.trod_string Tryz.underlying9 hy2
      cases e0
      cases e1
      cases e2
      exact ⟨(a0, s1, s2), hcell, bounds_i64 w1, w2⟩
    obtain ⟨f, hfn⟩ := Go.Deep.choose_lt (α := Vt) one
    refine ⟨some x, len, cap, (List.range len).map f, hcs, ⟨some x, len, cap, rfl, by simp, hl, by simpa [maxLen] using hm, fun hp => ?_⟩, fun v hv => ?_⟩
    · obtain ⟨b, off, spot⟩ := x
      have h0 := (hfn 0 hp).1 0 (by decide)
      have hspot : spot = none := by simpa [Addr.add] using World.cell?_spot h0
      subst hspot
      refine ⟨b, off, rfl, trivial, fun i hi => ⟨_, rfl, rfl, fun j hj => ?_⟩⟩
      have hi' : i < len := by simpa using hi
      have hj' : j < 3 := hj
      have := (hfn i hi').1 j hj'
      rw [addrV_at] at this
      refine this.trans ?_
      rw [show ((List.range len).map f)[i] = f i from by simp]
      match j, hj' with
      | 0, _ => rfl
      | 1, _ => rfl
      | 2, _ => rfl
    · obtain ⟨i, hi, rfl⟩ := List.mem_map.1 hv
      exact (hfn i (by simpa using hi)).2
set_option maxRecDepth 100000 in
/-- Rows of rows that came in. -/
theorem open_rows {H : Type} {enc : TypeId × Value → H} {W : World} {r : Reach} {b0 base : Nat} {sp : Nat → Bool} {held : Bool} {v : Value} {d : DataW H} {ps : List MemPlace} (hval : Value.okWide Tryz.prog W r b0 36 v) (hd : DataW.Trod enc Tryz.prog W base sp held 36 v d ps) :
    ∃ a len cap, ∃ V : List (List Vt), v = .slice a len cap ∧ RowIs eRow (fun _ => True) W (.slice a len cap) V ∧ ∀ l ∈ V, ∀ v ∈ l, Fits v.2.1 ∧ v.2.2.size ≤ maxLen := by
  obtain ⟨a, len, cap, rfl⟩ := okWide_slice Tryz.underlying36 hval
  obtain ⟨fuel, hf⟩ := hd
  rcases Go.Deep.open_slice Tryz.underlying36 hf with ⟨hcs, _⟩ | ⟨x, l, c, m, nn, D, Pl, hcs, hb, hl, hm, hmm, _, hx⟩
  · simp [Value.cells] at hcs
    obtain ⟨rfl, rfl, rfl⟩ := hcs
    exact ⟨none, 0, 0, [], rfl, RowIs.nil _ _ _, fun v hv => by simp at hv⟩
  · simp [Value.cells] at hcs
    obtain ⟨rfl, rfl, rfl⟩ := hcs
    have hlm : len ≤ m := by rw [hmm]; split <;> omega
    have one : ∀ i, i < len → ∃ u : List Vt, ∃ ra rn rc, W.cell? (x.add i) = some (.slice ra rn rc) ∧ RowIs eVal (fun _ => True) W (.slice ra rn rc) u ∧ ∀ v ∈ u, Fits v.2.1 ∧ v.2.2.size ≤ maxLen := by
      intro i hi
      obtain ⟨cs, h1, h2⟩ := hx i (by omega)
      rw [cRow] at h1
      obtain ⟨_, hlen, hcell⟩ := World.cells?_some h1
      obtain ⟨ra, rn, rc, V, rfl, hV, hg⟩ := in_values h2
      have h0 := hcell 0 (by decide)
      exact ⟨V, ra, rn, rc, by simpa [Addr.add] using h0, hV, hg⟩
    obtain ⟨f, hfn⟩ := Go.Deep.choose_lt (α := List Vt) one
    refine ⟨some x, len, cap, (List.range len).map f, rfl, ⟨some x, len, cap, rfl, by simp, hl, by simpa [maxLen] using hm, fun hp => ?_⟩, fun v hv => ?_⟩
    · obtain ⟨b, off, spot⟩ := x
      obtain ⟨ra, rn, rc, h0, _⟩ := hfn 0 hp
      have hspot : spot = none := by simpa [Addr.add] using World.cell?_spot h0
      subst hspot
      refine ⟨b, off, rfl, trivial, fun i hi => ?_⟩
      have hi' : i < len := by simpa using hi
      obtain ⟨ra, rn, rc, h0, h1, _⟩ := hfn i hi'
      rw [addr1] at h0
      refine ⟨[.slice ra rn rc], ⟨ra, rn, rc, rfl, ?_⟩, rfl, fun j hj => ?_⟩
      · rw [show ((List.range len).map f)[i] = f i from by simp]
        exact h1
      · have hj' : j < 1 := hj
        obtain rfl : j = 0 := by omega
        simpa [eRow] using h0
    · obtain ⟨i, hi, rfl⟩ := List.mem_map.1 hv
      obtain ⟨ra, rn, rc, _, _, h⟩ := hfn i (by simpa using hi)
      exact h

end Go.Proofs.YtnlaaejdianfjaaGreat
namespace Go.Proofs.YtnlaaejdianfjaaGreat
open Go.RowKit
set_option linter.unusedVariables false
set_option linter.unusedSimpArgs false

/-- Where a row stands, from behind: ahead of the first (from behind) that it may stand behind. -/
def plcP (st : List Vt → Bool) (out : List (List Vt)) : Nat → Nat
  | 0 => 0
  | k + 1 => if st (out.getD k []) then k + 1 else plcP st out k
/-- May x stand behind y? -/
def behP (bn : Nat) (ds : Bool) (x y : List Vt) : Bool := if ds then decide (0 ≤ cmpVt (y.getD bn vZ) (x.getD bn vZ)) else decide (cmpVt (y.getD bn vZ) (x.getD bn vZ) ≤ 0)
/-- Has each row the by-th? -/
def wholeP (by_ : Int) (L : List (List Vt)) : Bool := decide (0 ≤ by_) && L.all fun r => decide (by_ < (r.length : Int))
def insP (bn : Nat) (ds : Bool) (out : List (List Vt)) (x : List Vt) : List (List Vt) := out.take (plcP (behP bn ds x) out out.length) ++ x :: out.drop (plcP (behP bn ds x) out out.length)
/-- Rows sorted. -/
def srtP (by_ : Int) (ds : Bool) (L : List (List Vt)) : List (List Vt) := if wholeP by_ L then L.foldl (insP by_.toNat ds) [] else L
/-- A function that sorts rows so. -/
def SrC (f N M : Nat) : Prop := ∀ (L : List (List Vt)), L.length ≤ N → (∀ l ∈ L, l.length ≤ M) → (∀ l ∈ L, ∀ v ∈ l, mayV v.1 v.2.1 (nums v.2.2) = true) → (∀ l ∈ L, ∀ v ∈ l, Fits v.2.1 ∧ v.2.2.size ≤ maxLen) → ∀ (bi : Int), Fits bi → ∀ (ds : Bool) (Q : Nat → Prop) (w : World) (a : Option Addr) (n c : Nat), RowIs eRow Q w (.slice a n c) L →
    Calls Tryz.prog f #[.slice a n c, .int .i64 bi, .bool ds] w fun e w' => ∃ a' n' c', e = .returned (.slice a' n' c') ∧ RowIs eRow (fun _ => True) w' (.slice a' n' c') (srtP bi ds L) ∧ Below w.heap.size w w'
set_option maxRecDepth 100000 in
set_option maxHeartbeats 4000000 in
theorem relSorts_any (HB : ∀ w, Calls Tryz.prog 9 #[] w fun e w' => e = .returned (.bool true) ∧ Below w.heap.size w w') (H1 : SrC 16 20 8) (H2 : SrC 17 20 8)
    {L : List (List Vt)} (hf : ∀ l ∈ L, ∀ v ∈ l, Fits v.2.1 ∧ v.2.2.size ≤ maxLen) {bi : Int} (hbi : Fits bi) (ds : Bool) {Q : Nat → Prop} {w : World} {a : Option Addr} {n c : Nat} (h : RowIs eRow Q w (.slice a n c) L) :
    Calls Tryz.prog 4 #[.slice a n c, .int .i64 bi, .bool ds] w fun e w' => e = .returned (.bool true) ∧ Below w.heap.size w w' := by
  obtain ⟨l1, l2, l3⟩ := row_lens h
  have HR : Hid (∀ w', Below w.heap.size w w' → RowIs eRow Q w' (.slice a n c) L) := hid fun w' hb => h.keep (by decide) fun b _ hl => hb.block b hl
  have HF : Hid _ := hid hf
  have Hbi : Hid _ := hid hbi
  have HBg : Hid _ := hid (HB w)
  replace H1 : Hid _ := hid H1
  replace H2 : Hid _ := hid H2
  clear h hf hbi HB
  go_enter Tryz.func4, Tryz.ntmps4
  go_wp2_with fail
  refine Calls.mono HBg.out ?_
  rintro e w1 ⟨rfl, hb1⟩
  clear HBg
  by_cases h20 : 20 < n
  · have g0 : decide ((n : Int) > 20) = true := by simp; omega
    have g1 : decide ((20 : Int) < (n : Int)) = true := by simp; omega
    go_wp2
    go_ret
    exact ⟨rfl, hb1⟩
  have g1 : decide ((20 : Int) < (n : Int)) = false := by simp; omega
  go_wp2
  go_loopw [7, 8] (fun v7 v8 wr => ∃ (k : Nat) (m : Int), k ≤ n ∧ -1 ≤ m ∧ m ≤ 8 ∧ v7 = .int .i64 m ∧ v8 = .int .i64 k ∧ Below w.heap.size w wr ∧ Hid (∀ i (h1 : i < L.length), i < k → L[i].length ≤ 8 ∧ ∀ v ∈ L[i], mayV v.1 v.2.1 (nums v.2.2) = true)) (fun _ i _ => n - (intOf i).toNat)
  case atStart => exact ⟨0, -1, Nat.zero_le _, by omega, by omega, rfl, rfl, hb1, hid fun i h1 h3 => absurd h3 (by omega)⟩
  case round =>
    obtain ⟨k, m, hk, hm1, hm8, rfl, rfl, hB, HD⟩ := hrel
    clear hb1
    by_cases hlt : k < n
    · obtain ⟨b, o, xa, xn, xc, rfl, -, x0, rx⟩ := row1 (HR.out wr hB) (k := k) (by omega)
      have hfx := HF.out _ (List.getElem_mem (l := L) (n := k) (by omega))
      obtain ⟨X, hX⟩ : ∃ x, L[k]'(by omega) = x := ⟨_, rfl⟩
      rw [hX] at rx hfx
      obtain ⟨p1, p2, p3⟩ := row_lens rx
      have HX : Hid _ := hid hX
      have HFx : Hid _ := hid hfx
      have HRX : Hid (∀ w', Below wr.heap.size wr w' → RowIs eVal Q w' (.slice xa xn xc) X) := hid fun w' hb => rx.keep (by decide) fun b _ hl => hb.block b hl
      have hkm : (k : Int) < (n : Int) := by omega
      have hwk := wrapS hlt l2 l3
      clear hX hfx rx
      by_cases h8 : 8 < xn
      · have g2 : decide ((8 : Int) < (xn : Int)) = true := by simp; omega
        go_wp2
        go_ret
        exact ⟨rfl, hB⟩
      have g2 : decide ((8 : Int) < (xn : Int)) = false := by simp; omega
      have hmx : -1 ≤ max m (xn : Int) ∧ max m (xn : Int) ≤ 8 := by omega
      go_upto_region 12 with fail
      generalize max m (xn : Int) = mm at *
      clear hm1 hm8
      go_wp2
      go_loopw [9] (fun v9 wz => ∃ j : Nat, j ≤ xn ∧ v9 = .int .i64 j ∧ Below wr.heap.size wr wz ∧ Hid (∀ i (h1 : i < X.length), i < j → mayV X[i].1 X[i].2.1 (nums X[i].2.2) = true)) (fun i _ => xn - (intOf i).toNat)
      case atStart => exact ⟨0, Nat.zero_le _, rfl, Below.refl _ _, hid fun i h1 h3 => absurd h3 (by omega)⟩
      case round =>
        rename_i wz
        obtain ⟨j, hj, rfl, hZ, HE⟩ := hrel
        have x1 := cell_later hZ x0
        have hB2 := Below.on hB hZ
        by_cases hjx : j < xn
        · obtain ⟨b', o', rfl, -, c0, c1, c2⟩ := val1 (HRX.out _ hZ) (k := j) (by omega)
          have hs := (HFx.out _ (List.getElem_mem (l := X) (n := j) (by omega))).2
          obtain ⟨x, hx⟩ : ∃ x, X[j]'(by omega) = x := ⟨_, rfl⟩
          rw [hx] at c0 c1 c2 hs
          have HV : Hid _ := hid hx
          have HM := fun w => refMay_any x.1 x.2.1 x.2.2 (by simpa [maxLen] using hs) w
          have hjm : (j : Int) < (xn : Int) := by omega
          have hwj := wrapS hjx p2 p3
          cases hm : mayV x.1 x.2.1 (nums x.2.2) with
          | true =>
            rw [hm] at HM
            replace HM : Hid _ := hid HM
            have HN : Hid (∀ i (h1 : i < X.length), i < j + 1 → mayV X[i].1 X[i].2.1 (nums X[i].2.2) = true) := hid fun i h1 h2 => by
              by_cases he : i < j
              · exact HE.out i h1 he
              · obtain rfl : i = j := by omega
                rw [HV.out]; exact hm
            clear hm hs hx HE x0
            go_wp2_with fail
            refine Calls.mono (HM.out _) ?_
            rintro e w4 ⟨rfl, hb4⟩
            have hZ4 := Below.on hZ hb4
            clear HM hb4 hZ c0 c1 c2 hB2
            go_wp2
            go_roundw
            case rel => exact ⟨j + 1, by omega, by go_num, hZ4, HN⟩
            case measure => simp only [intOf]; omega
          | false =>
            rw [hm] at HM
            replace HM : Hid _ := hid HM
            clear hm hs hx HE x0
            go_wp2_with fail
            refine Calls.mono (HM.out _) ?_
            rintro e w4 ⟨rfl, hb4⟩
            have hB4 := Below.on hB2 hb4
            clear HM hb4 hZ c0 c1 c2
            go_wp2
            go_ret
            exact ⟨rfl, hB4⟩
        · obtain rfl : j = xn := by omega
          have HN : Hid (∀ i (h1 : i < L.length), i < k + 1 → L[i].length ≤ 8 ∧ ∀ v ∈ L[i], mayV v.1 v.2.1 (nums v.2.2) = true) := hid fun i h1 h2 => by
            by_cases he : i < k
            · exact HD.out i h1 he
            · obtain rfl : i = k := by omega
              rw [HX.out]
              refine ⟨by omega, fun v hv => ?_⟩
              obtain ⟨i, hi, rfl⟩ := List.mem_iff_getElem.1 hv
              exact HE.out i hi (by omega)
          clear HD HE
          go_wp2
          go_roundw
          case rel => exact ⟨k + 1, mm, by omega, hmx.1, hmx.2, rfl, by go_num, hB2, HN⟩
          case measure => simp only [intOf]; omega
    · obtain rfl : k = n := by omega
      have hm9 : decide (m < 9) = true := by simp; omega
      have q1 : ∀ l ∈ L, l.length ≤ 8 := fun l hl => by
        obtain ⟨i, hi, rfl⟩ := List.mem_iff_getElem.1 hl
        exact (HD.out i hi (by omega)).1
      have q2 : ∀ l ∈ L, ∀ v ∈ l, mayV v.1 v.2.1 (nums v.2.2) = true := fun l hl => by
        obtain ⟨i, hi, rfl⟩ := List.mem_iff_getElem.1 hl
        exact (HD.out i hi (by omega)).2
      have C1 : Hid (∀ w', Below w.heap.size w w' → _) := hid fun w' hb => H1.out L (by omega) q1 q2 HF.out bi Hbi.out ds Q w' a k c (HR.out w' hb)
      have C2 : Hid (∀ w', Below w.heap.size w w' → _) := hid fun w' hb => H2.out L (by omega) q1 q2 HF.out bi Hbi.out ds Q w' a k c (HR.out w' hb)
      clear HD q1 q2 H1 H2
      go_wp2_with fail
      refine Calls.mono (C1.out _ hB) ?_
      rintro e w4 ⟨a4, n4, c4, rfl, r4, hb4⟩
      have hB4 := Below.on hB hb4
      have HR4 : Hid (∀ w', Below w4.heap.size w4 w' → RowIs eRow (fun _ => True) w' (.slice a4 n4 c4) (srtP bi ds L)) := hid fun w' hb => r4.keep (by decide) fun b _ hl => hb.block b hl
      clear r4 C1
      go_wp2_with fail
      refine Calls.mono (C2.out _ hB4) ?_
      rintro e w5 ⟨a5, n5, c5, rfl, r5, hb5⟩
      have hB5 := Below.on hB4 hb5
      have HS : Hid _ := hid (sameRows_any (HR4.out w5 hb5) r5)
      clear r5 C2 HR4 hb4 hb5
      go_wp2_with fail
      refine Calls.mono HS.out ?_
      rintro e w6 ⟨rfl, hb6⟩
      have hB6 := Below.on hB5 hb6
      rw [decide_true]
      clear HS
      go_wp2
      go_ret
      exact ⟨rfl, hB6⟩

end Go.Proofs.YtnlaaejdianfjaaGreat
namespace Go.Proofs.YtnlaaejdianfjaaGreat
open Go.RowKit
set_option linter.unusedVariables false
set_option linter.unusedSimpArgs false

/-- What a round may not touch, wherever it lies: all that is no cells, and the yields that iterators keep. -/
def prt : Obj → Bool
  | .cells _ t _ => decide (t = 124)
  | _ => true
/-- What a round leaves as it was: all that the iterator had ahead of it, and of all from B on what it may not touch. -/
structure Kps (n B : Nat) (W W' : World) : Prop where
  low : Below n W W'
  oth : ∀ k o, B ≤ k → W.heap[k]? = some o → prt o = true → W'.heap[k]? = some o
theorem Kps.trans {n B : Nat} {X Y Z : World} (h : Kps n B X Y) (k : Kps n B Y Z) : Kps n B X Z := ⟨h.low.trans k.low, fun i o hi hx hp => k.oth i o hi (h.oth i o hi hx hp) hp⟩
theorem Kps.mono {n B n' B' : Nat} {X Y : World} (h : Kps n B X Y) (hn : n' ≤ n) (hB : B ≤ B') : Kps n' B' X Y :=
  ⟨h.low.mono hn, fun k o hk => h.oth k o (Nat.le_trans hB hk)⟩
theorem Kps.of_below {n B : Nat} {X Y : World} (h : Below X.heap.size X Y) (hn : n ≤ X.heap.size) : Kps n B X Y :=
  ⟨h.mono hn, fun k o _ hk _ => (h.block k (Array.getElem?_eq_some_iff.1 hk).1).trans hk⟩
/-- A step that turns one block, of cells that may be touched. -/
theorem Kps.grown {n B : Nat} {X Y : World} {row : Option Nat} (hg : X.grownBy Y row) (hn : n ≤ X.heap.size) (hr : ∀ r, row = some r → n ≤ r ∧ ∀ o, X.heap[r]? = some o → prt o = false) : Kps n B X Y :=
  ⟨(Below.refl n X).grown hg hn fun k e => (hr k e).1, fun k o _ hk hp => (hg.block k (Array.getElem?_eq_some_iff.1 hk).1 fun e => by have := (hr k e.symm).2 o hk; rw [hp] at this; cases this).trans hk⟩
theorem Kps.setCell {n B : Nat} {X : World} (a : Addr) (v : Value) (hn : n ≤ a.block) (hr : ∀ o, X.heap[a.block]? = some o → prt o = false) : Kps n B X (X.setCell a v) :=
  ⟨(Below.refl n X).setCell hn v, fun k o _ hk hp => (Below.heap_setCell X a v k fun e => by subst e; rw [hr o hk] at hp; cases hp).trans hk⟩
/-- What an iterator leaves as it was, between two rounds: all below B, all cells. -/
structure Gr (B : Nat) (V W : World) : Prop where
  os : W.os = V.os
  tape : W.tape = V.tape
  output : W.output = V.output
  size : V.heap.size ≤ W.heap.size
  block : ∀ k o, V.heap[k]? = some o → (k < B ∨ o.isCells = true) → W.heap[k]? = some o
theorem Gr.refl (B : Nat) (V : World) : Gr B V V := ⟨rfl, rfl, rfl, Nat.le_refl _, fun _ _ h _ => h⟩
theorem Gr.trans {B : Nat} {X Y Z : World} (h : Gr B X Y) (k : Gr B Y Z) : Gr B X Z := ⟨k.os.trans h.os, k.tape.trans h.tape, k.output.trans h.output, Nat.le_trans h.size k.size, fun i o hi ho => k.block i o (h.block i o hi ho) ho⟩
theorem Gr.mono {B B' : Nat} {X Y : World} (h : Gr B X Y) (hB : B' ≤ B) : Gr B' X Y := ⟨h.os, h.tape, h.output, h.size, fun i o hi ho => h.block i o hi (ho.imp (fun x => Nat.lt_of_lt_of_le x hB) id)⟩
theorem Gr.of_below {B : Nat} {X Y : World} (h : Below X.heap.size X Y) : Gr B X Y := ⟨h.os, h.tape, h.output, h.size, fun i o hi _ => (h.block i (Array.getElem?_eq_some_iff.1 hi).1).trans hi⟩
theorem Gr.put {B : Nat} {X Y : World} (h : Gr B X Y) {l : Nat} {o : Obj} (o' : Obj) (hB : B ≤ l) (hl : Y.heap[l]? = some o) (ho : o.isCells = false) : Gr B X (Y.putObj l o') :=
  h.trans ⟨rfl, rfl, rfl, by simp, fun i p hi hp => by
    by_cases e : i = l
    · subst e
      rw [hl] at hi; cases hi
      rcases hp with hp | hp
      · omega
      · rw [ho] at hp; cases hp
    · exact (World.putObj_heap_other e).trans hi⟩
theorem Gr.below {B n : Nat} {X Y : World} (h : Gr B X Y) (hn : n ≤ B) (hx : n ≤ X.heap.size) : Below n X Y := ⟨h.os, h.tape, h.output, h.size, fun k hk => by
  have hk' : k < X.heap.size := by omega
  rw [Array.getElem?_eq_getElem hk']
  exact h.block k _ (Array.getElem?_eq_getElem hk') (.inl (by omega))⟩
theorem Gr.cell {B : Nat} {X Y : World} (h : Gr B X Y) {a : Addr} {v : Value} (hc : X.cell? a = some v) : Y.cell? a = some v ∧ Y.frozen? a = X.frozen? a := by
  have hb : a.block < X.heap.size := World.block_lt_of_cell? _ _ hc
  have ho : (X.heap[a.block]).isCells = true := by
    unfold World.cell? at hc
    rw [Array.getElem?_eq_getElem hb] at hc
    generalize X.heap[a.block] = o at *
    cases o <;> first | rfl | (simp at hc)
  have hk : Y.heap[a.block]? = X.heap[a.block]? := by
    rw [Array.getElem?_eq_getElem hb]
    exact h.block a.block _ (Array.getElem?_eq_getElem hb) (.inr ho)
  exact ⟨(World.cell?_of_block hk).trans hc, World.frozen?_of_block hk⟩
/-- An iterator that tells N things, the k-th such as A says, whoever asks, as long as he keeps what there was. -/
def SeqW (P : Program) (g : Nat) (lb : Array Value) (N : Nat) (A : Nat → Nat → World → Array Value → Prop) (w0 : World) : Prop :=
  ∀ (l : Nat) (J Jx : Nat → World → Prop) (W : World), Below w0.heap.size w0 W →
    (∀ k W1 W2 xs, k < N → J k W1 → Below w0.heap.size w0 W2 → Gr W.heap.size W1 W2 → A k W1.heap.size W2 xs → YieldAt Fence.wide 0 P l xs W2 fun e W' => Kps w0.heap.size W.heap.size W2 W' ∧ ((e = .returned (.bool true) ∧ J (k + 1) W') ∨ (e = .returned (.bool false) ∧ Jx (k + 1) W'))) →
    J 0 W → Calls P g (#[.func (.yield l) #[] #[]] ++ lb) W fun e W' => (∃ v, e = .returned v) ∧ Below w0.heap.size w0 W' ∧ ∃ W1, Gr W.heap.size W1 W' ∧ (J N W1 ∨ ∃ k, k ≤ N ∧ Jx k W1)
theorem kps_put {n : Nat} (W : World) {l : Nat} {o : Obj} (o' : Obj) (hn : n ≤ l) (hl : W.heap[l]? = some o) : Below n W (W.putObj l o') :=
  (Below.refl n W).grown (grownBy_putObj' W l o') (by have := (Array.getElem?_eq_some_iff.1 hl).1; omega) (fun k e => by cases e; exact hn)
/-- How a round may end. -/
def rndP (n B : Nat) (I : Nat → World → Prop) (Ix : Code → Nat → World → Prop) (k : Nat) (W : World) : Exit → Act → World → Prop
  | .normal, _, W' => Kps n B W W' ∧ I k W'
  | .ret, _, W' => Kps n B W W' ∧ Ix .ret k W'
  | .exit id, _, W' => Kps n B W W' ∧ Ix (.exit id) k W'
  | .goto t, _, W' => Kps n B W W' ∧ Ix (.goto t) k W'
  | _, _, _ => False
set_option maxRecDepth 10000 in
/-- The loop. -/
theorem range_any {P : Program} {g : Operand} {ps : Array Tmp} {assign body : Code} {Q : Exit → Act → World → Prop} {a : Act} {w : World} {gf : Nat} {lb : Array Value} {N : Nat} {A : Nat → Nat → World → Array Value → Prop} {w0 : World}
    (hg : a.eval g = .func (.func gf) #[] lb) (eg : ∀ args w, (callFunc gf args).run P w = .ok (.enter gf args) w) (hseq : SeqW P gf lb N A w0) (hb0 : Below w0.heap.size w0 w)
    (hA : ∀ {k s s' W W' xs}, A k s W xs → s' ≤ s → Gr 0 W W' → A k s' W' xs ∧ xs.size = ps.size)
    (I : Nat → World → Prop) (Ix : Code → Nat → World → Prop) (h0 : I 0 w) (a1 : Array Value → Act)
    (has : ∀ (l : Nat) (xs : Array Value) (W : World) (K : Act → World → Prop), (∃ k s V, A k s V xs) → K (a1 xs) W → assign.wpIn (Fence.wide.inRound l) 0 P (Exit.then K (fun _ _ _ => False)) { tmps := (ps.zip xs).foldl (fun t (p, v) => t.setIfInBounds p v) a.tmps, defers := [] } W)
    (hbo : ∀ (l k : Nat) (V W : World) (xs : Array Value), k < N → I k V → Gr w.heap.size V W → Below w0.heap.size w0 W → A k V.heap.size W xs → body.wpIn (Fence.wide.inRound l) 0 P (rndP w0.heap.size w.heap.size I Ix (k + 1) W) (a1 xs) W)
    (hdone : ∀ (D : Nat) (V W : World), w.heap.size ≤ D → I N V → Gr w.heap.size V W → Below w0.heap.size w0 W → W.heap[D]? = some (.deferred (some [])) → Q .normal { a with defers := { target := .collected D, args := #[] } :: a.defers } W)
    (hstop : ∀ (D : Nat) (c : Code) (k : Nat) (V W : World), w.heap.size ≤ D → k ≤ N → Ix c k V → Gr w.heap.size V W → Below w0.heap.size w0 W → W.heap[D]? = some (.deferred (some [])) → c.wpIn Fence.wide 0 P Q { a with defers := { target := .collected D, args := #[] } :: a.defers } W) :
    (Code.rangeFunc g ps assign body).wpIn Fence.wide 0 P Q a w := by
  refine wpIn_rangeFunc fun fn _ => ?_
  obtain ⟨R, hR⟩ : ∃ R : LoopState → Option Code → Loop, R = fun st pe => ⟨st, pe, fn, a.tmps, ps, assign, body, w.heap.size⟩ := ⟨_, rfl⟩
  have rs : ∀ st pe, (R st pe).state = st := fun st pe => by rw [hR]
  have rp : ∀ st pe, (R st pe).pending = pe := fun st pe => by rw [hR]
  obtain ⟨X, hX⟩ : ∃ X, (w.alloc (.deferred (some []))).alloc (.loop (R .ready none)) = X := ⟨_, rfl⟩
  have hXs : X.heap.size = w.heap.size + 2 := by rw [← hX]; simp
  have hwX : Below w.heap.size w X := by rw [← hX]; exact ((Below.refl _ w).alloc (Nat.le_refl _) _).alloc (by simp) _
  have hXl : X.heap[w.heap.size + 1]? = some (.loop (R .ready none)) := by
    rw [← hX]
    have := World.alloc_heap_new (w.alloc (.deferred (some []))) (.loop (R .ready none))
    rwa [World.size_alloc] at this
  have hXd : X.heap[w.heap.size]? = some (.deferred (some [])) := by
    rw [← hX]; exact (Below.heap_alloc _ _ _ (by simp)).trans (World.alloc_heap_new w _)
  have hrun : (Instr.enterLoop fn a.tmps ps assign body none).run P w = .ok (w.heap.size + 1, [{ target := .collected w.heap.size, args := #[] }]) X := by
    rw [run_enterLoop_outer, ← hX, hR]
  refine ⟨w.heap.size + 1, [{ target := .collected w.heap.size, args := #[] }], X, { target := .fn (.func gf) lb, args := #[.func (.yield (w.heap.size + 1)) #[] #[]] }, X, gf, #[.func (.yield (w.heap.size + 1)) #[] #[]] ++ lb, X, hrun, ?_, fun _ _ => trivial, ?_, fun h => by simp [Fence.wide] at h, ?_⟩
  · simp only [resolve, hg]
    simp [go_sem]
  · simp [invoke, go_sem, eg]
  have two : ∀ {Y Z : World}, Gr X.heap.size Y Z → ∀ {i : Nat} {o : Obj}, i < X.heap.size → Y.heap[i]? = some o → Z.heap[i]? = some o := fun hgr i o hi hy => hgr.block i o hy (.inl hi)
  have hw0 := hb0.size
  refine callsIn_wide.2 ((hseq (w.heap.size + 1)
    (fun k W => (∃ V, I k V ∧ Gr w.heap.size V W) ∧ W.heap[w.heap.size + 1]? = some (.loop (R .ready none)) ∧ W.heap[w.heap.size]? = some (.deferred (some [])))
    (fun k W => ∃ c, (∃ V, Ix c k V ∧ Gr w.heap.size V W) ∧ W.heap[w.heap.size + 1]? = some (.loop (R .done (some c))) ∧ W.heap[w.heap.size]? = some (.deferred (some [])))
    X (hb0.trans (hwX.mono hb0.size)) ?_ ⟨⟨w, h0, Gr.of_below hwX⟩, hXl, hXd⟩).mono ?_)
  · rintro k W1 W xs hk ⟨⟨V, hi, hV⟩, hl1, hd1⟩ hbW hgr hAx
    have hl := two hgr (by omega) hl1
    have hd := two hgr (by omega) hd1
    have hy := run_yield (P := P) (args := xs) hl (by rw [hR]; exact (hA hAx (Nat.le_refl _) (Gr.refl _ _)).2)
    obtain ⟨Y, hY⟩ : ∃ Y, W.putObj (w.heap.size + 1) (.loop (R .busy none)) = Y := ⟨_, rfl⟩
    have hbeg : (Instr.beginRound (w.heap.size + 1)).run P W = .ok () Y := by
      rw [run_beginRound hl (rs _ _), ← hY]
      exact congrArg (fun r => Result.ok () (W.putObj (w.heap.size + 1) (.loop r))) (by rw [hR])
    have hll : w.heap.size + 1 < W.heap.size := (Array.getElem?_eq_some_iff.1 hl).1
    have hYl : Y.heap[w.heap.size + 1]? = some (.loop (R .busy none)) := by rw [← hY]; exact World.putObj_heap_same hll
    have hYd : Y.heap[w.heap.size]? = some (.deferred (some [])) := by rw [← hY]; exact (World.putObj_heap_other (by omega)).trans hd
    have hWY : Below w0.heap.size W Y := by rw [← hY]; exact kps_put W _ (by omega) hl
    have hWG : Gr w.heap.size W Y := by rw [← hY]; exact (Gr.refl _ _).put _ (by omega) hl rfl
    have hsY : Y.heap.size = W.heap.size := by rw [← hY]; simp
    rw [hR] at hy
    refine ⟨fn, _, assign, body, hy, roundIn_of_wpIn trivial (has _ xs W _ ⟨_, _, _, hAx⟩ ⟨Y, hbeg, ?_⟩)⟩
    refine wpIn_mono (hbo _ k V Y xs hk hi ((hV.trans (hgr.mono (by omega))).trans hWG) (hbW.trans hWY) (hA hAx hV.size (hWG.mono (Nat.zero_le _))).1) ?_
    -- the end of a round, whichever
    have fin : ∀ (j : Option Code) (Z : World), Kps w0.heap.size w.heap.size Y Z → ∃ U, (Instr.endRound (w.heap.size + 1) j).run P Z = .ok (.bool j.isNone) U ∧ Gr w.heap.size Z U ∧
        Kps w0.heap.size X.heap.size W U ∧ U.heap[w.heap.size + 1]? = some (.loop (R (if j.isNone then .ready else .done) j)) ∧ U.heap[w.heap.size]? = some (.deferred (some [])) := fun j Z hz => by
      have hZl := hz.oth _ _ (by omega) hYl rfl
      have hZd := hz.oth _ _ (Nat.le_refl _) hYd rfl
      have hlz : w.heap.size + 1 < Z.heap.size := (Array.getElem?_eq_some_iff.1 hZl).1
      refine ⟨_, (run_endRound j hZl).trans (congrArg (fun r => Result.ok (Value.bool j.isNone) (Z.putObj (w.heap.size + 1) (.loop r))) (by rw [hR])), (Gr.refl _ _).put _ (by omega) hZl rfl, ⟨(hWY.trans hz.low).trans (kps_put Z _ (by omega) hZl), ?_⟩, World.putObj_heap_same hlz, (World.putObj_heap_other (by omega)).trans hZd⟩
      · intro i o hi ho hc
        have hne : i ≠ w.heap.size + 1 := by omega
        rw [World.putObj_heap_other hne]
        refine hz.oth i o (by omega) ?_ hc
        rw [← hY, World.putObj_heap_other hne]; exact ho
    rintro e b Z hp
    cases e with
    | normal =>
      obtain ⟨U, hr, hU, hkp, hl', hd'⟩ := fin none Z hp.1
      exact ⟨_, U, hr, hkp, .inl ⟨rfl, ⟨Z, hp.2, hU⟩, hl', hd'⟩⟩
    | ret =>
      obtain ⟨U, hr, hU, hkp, hl', hd'⟩ := fin (some .ret) Z hp.1
      exact ⟨_, U, hr, hkp, .inr ⟨rfl, _, ⟨Z, hp.2, hU⟩, hl', hd'⟩⟩
    | exit id =>
      obtain ⟨U, hr, hU, hkp, hl', hd'⟩ := fin (some (.exit id)) Z hp.1
      exact ⟨_, U, hr, hkp, .inr ⟨rfl, _, ⟨Z, hp.2, hU⟩, hl', hd'⟩⟩
    | goto t =>
      obtain ⟨U, hr, hU, hkp, hl', hd'⟩ := fin (some (.goto t)) Z hp.1
      exact ⟨_, U, hr, hkp, .inr ⟨rfl, _, ⟨Z, hp.2, hU⟩, hl', hd'⟩⟩
    | panic ch => exact hp.elim
    | outgrown => exact hp.elim
  · rintro e Z ⟨⟨v, rfl⟩, hbZ, W1, hG, ⟨⟨V, hi, hV⟩, hl1, hd1⟩ | ⟨k, hk, c, ⟨V, hi, hV⟩, hl1, hd1⟩⟩
    · have hl := two hG (by omega) hl1
      have hd := two hG (by omega) hd1
      refine ⟨none, _, (run_endLoop hl (by rw [rs]; simp)).trans (by rw [rp]), ?_⟩
      exact hdone _ V _ (Nat.le_refl _) hi ((hV.trans (hG.mono (by omega))).put _ (by omega) hl rfl) (hbZ.trans (kps_put Z _ (by omega) hl)) ((World.putObj_heap_other (by omega)).trans hd)
    · have hl := two hG (by omega) hl1
      have hd := two hG (by omega) hd1
      refine ⟨some c, _, (run_endLoop hl (by rw [rs]; simp)).trans (by rw [rp]), ?_⟩
      exact hstop _ c k V _ (Nat.le_refl _) hk hi ((hV.trans (hG.mono (by omega))).put _ (by omega) hl rfl) (hbZ.trans (kps_put Z _ (by omega) hl)) ((World.putObj_heap_other (by omega)).trans hd)
theorem SeqW.later {P : Program} {g : Nat} {lb : Array Value} {N : Nat} {A : Nat → Nat → World → Array Value → Prop} {w w' : World} (h : SeqW P g lb N A w) (hb : Below w.heap.size w w') : SeqW P g lb N A w' :=
  fun l J Jx W hW hY h0 => by
    refine (h l (fun k W1 => J k W1 ∧ Below w'.heap.size w' W1) (fun k W1 => Jx k W1 ∧ Below w'.heap.size w' W1) W (hb.trans (hW.mono hb.size)) (fun k W1 W2 xs hk hj hb2 hg hA => ?_) ⟨h0, hW⟩).mono ?_
    · have hW2 : Below w'.heap.size w' W2 := hj.2.trans (hg.below hW.size hj.2.size)
      obtain ⟨fn, tmps, assign, body, hy, hR⟩ := hY k W1 W2 xs hk hj.1 hW2 hg hA
      exact ⟨fn, tmps, assign, body, hy, hR.mono fun e W' hp => ⟨hp.1.mono hb.size (Nat.le_refl _), hp.2.imp (fun q => ⟨q.1, q.2, hW2.trans hp.1.low⟩) (fun q => ⟨q.1, q.2, hW2.trans hp.1.low⟩)⟩⟩
    · rintro e W' ⟨hv, hbW, W1, hG, ⟨hj, hq⟩ | ⟨k, hk, hj, hq⟩⟩
      · exact ⟨hv, hq.trans (hG.below hW.size hq.size), W1, hG, .inl hj⟩
      · exact ⟨hv, hq.trans (hG.below hW.size hq.size), W1, hG, .inr ⟨k, hk, hj⟩⟩

end Go.Proofs.YtnlaaejdianfjaaGreat
namespace Go.Proofs.YtnlaaejdianfjaaGreat
open Go.RowKit Go.Shelf
set_option linter.unusedVariables false
set_option linter.unusedSimpArgs false
attribute [local go_sem] Oper.semAt_some

theorem rowV_gr {B : Nat} {w w' : World} (hg : Gr B w w') {Q : Nat → Prop} {v : Value} {l : List Vt} (h : RowIs eVal Q w v l) : RowIs eVal Q w' v l := by
  obtain ⟨ao, n, c, hv, hl, hn, hc, hx⟩ := h
  refine ⟨ao, n, c, hv, hl, hn, hc, fun hp => ?_⟩
  obtain ⟨b, o, ha, hq, hi⟩ := hx hp
  refine ⟨b, o, ha, hq, fun i h => ?_⟩
  obtain ⟨cs, h1, h2, h3⟩ := hi i h
  exact ⟨cs, h1, h2, fun j hj => (hg.cell (h3 j hj)).1⟩
/-- The k-th row is told: it lies ahead of n0, or in what is new since s. -/
def A1 (n0 : Nat) (Rs : List (List Vt)) (k s : Nat) (W : World) (xs : Array Value) : Prop := ∃ a n c r, xs = #[.slice a n c] ∧ Rs[k]? = some r ∧ RowIs eVal (fun b => b < n0 ∨ s ≤ b) W (.slice a n c) r
theorem A1.on {n0 : Nat} {Rs : List (List Vt)} {k s s' : Nat} {W W' : World} {xs : Array Value} (h : A1 n0 Rs k s W xs) (hs : s' ≤ s) (hg : Gr 0 W W') : A1 n0 Rs k s' W' xs ∧ xs.size = 1 := by
  obtain ⟨a, n, c, r, rfl, h1, h2⟩ := h
  exact ⟨⟨a, n, c, r, rfl, h1, (rowV_gr hg h2).mono (by decide) fun b hq _ => hq.imp id (fun x => Nat.le_trans hs x)⟩, rfl⟩
set_option maxRecDepth 100000 in
set_option maxHeartbeats 2000000 in
theorem values_any {Q : Nat → Prop} {w0 : World} {B : Nat} {a : Option Addr} {n c : Nat} {L : List (List Vt)} (hB : w0.cell? ⟨B, 0, none⟩ = some (.slice a n c)) (h : RowIs eRow Q w0 (.slice a n c) L) :
    SeqW Tryz.prog 87 #[.pointer (some ⟨B, 0, none⟩)] L.length (A1 w0.heap.size L) w0 := by
  intro l J Jx W hW hY h0
  obtain ⟨l1, l2, l3⟩ := row_lens h
  have HF : Hid (∀ w', Below w0.heap.size w0 w' → ∀ i (h : i < n), ∃ b o a' n' c', a = some ⟨b, o, none⟩ ∧ w'.cell? ⟨b, o + i, none⟩ = some (.slice a' n' c') ∧ ∀ s, A1 w0.heap.size L i s w' #[.slice a' n' c']) := hid fun w' hb i hi => by
    obtain ⟨b, o, ra, rn, rc, h1, h2, h3, h4⟩ := row1 h (k := i) (by omega)
    refine ⟨b, o, ra, rn, rc, h1, cell_later hb h3, fun s => ⟨ra, rn, rc, _, rfl, List.getElem?_eq_getElem (by omega), ?_⟩⟩
    exact ((h4.mono (by decide) (Q' := fun b => b < w0.heap.size) fun b _ hl => hl).keep (by decide) fun b _ hl => hb.block b hl).mono (by decide) fun b hq _ => .inl hq
  have hBW := cell_later hW hB
  have HY : Hid _ := hid hY
  have HN : Hid (L.length = n) := hid l1
  have HJ0 : Hid (J 0 W) := hid h0
  have HG0 : Hid (Gr W.heap.size W W) := hid (Gr.refl _ _)
  rw [l1] at hY ⊢
  clear hY h l1 h0
  refine (callsIn_wide (n := 0)).1 (callsIn_of_wp Tryz.func87 rfl trivial ?_)
  simp only [Tryz.ntmps87, List.size_toArray, List.length_cons, List.length_nil, Nat.reduceAdd, Nat.reduceSub, Array.replicate_succ, Array.replicate_zero, List.push_toArray, List.append_toArray, List.nil_append, List.cons_append]
  gi_wp2
  gi_loopw [7] (fun i wr => ∃ (k : Nat) (W1 : World), k ≤ n ∧ i = .int .i64 k ∧ Hid (J k W1) ∧ Hid (Gr W.heap.size W1 wr) ∧ Below w0.heap.size w0 wr) (fun i _ => n - (intOf i).toNat)
  case atStart => exact ⟨0, W, Nat.zero_le _, rfl, HJ0, HG0, hW⟩
  case round =>
    obtain ⟨k, W1, hk, rfl, HJ, HG, hB2⟩ := hrel
    clear HJ0 HG0
    by_cases hlt : k < n
    · obtain ⟨b, o, a', n', c', rfl, hc, hA⟩ := HF.out wr hB2 k hlt
      obtain ⟨fn, tmps, assign, body, hy, hR⟩ := HY.out k W1 wr _ (by rw [HN.out]; exact hlt) HJ.out hB2 HG.out (hA _)
      have hkm : (k : Int) < (n : Int) := by omega
      have hwk := wrapS hlt l2 l3
      have HR : Hid _ := hid hR
      clear hR hA
      gi_wp2
      refine ⟨rfl, HR.out.mono ?_⟩
      rintro e' W3 ⟨hk3, ⟨rfl, hJ3⟩ | ⟨rfl, hJx3⟩⟩
      · have hB3 := hB2.trans hk3.low
        have HJ3 : Hid _ := hid hJ3
        clear hJ3 hk3 HR
        gi_wp2
        go_roundw
        case rel => exact ⟨k + 1, W3, by omega, by go_num, HJ3, hid (Gr.refl _ _), hB3⟩
        case measure => simp only [intOf]; omega
      · have hB3 := hB2.trans hk3.low
        have HJ3 : Hid _ := hid hJx3
        clear hJx3 hk3 HR
        gi_wp2
        refine bodyPost_ret (results_none rfl _ _ _) rfl ?_
        exact ⟨⟨_, rfl⟩, hB3, W3, Gr.refl _ _, .inr ⟨k + 1, by omega, HJ3.out⟩⟩
    · obtain rfl : k = n := by omega
      gi_wp2
      go_end0
      exact ⟨⟨_, rfl⟩, hB2, W1, HG.out, .inl HJ.out⟩

end Go.Proofs.YtnlaaejdianfjaaGreat
