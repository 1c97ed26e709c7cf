import Derived.Test.YtnlaaejdianfjaaGreatQsag
import Derived.Test.YtnlaaejdianfjaaGreatQsab
import Derived.Test.YtnlaaejdianfjaaGreatQsaa
import Derived.ProofKit
import Derived.OpenShut
import Derived.ShutString
import Derived.ChangeOld
import Derived.Below
import Derived.Deep.Strs
import Derived.ChangeMaps5
import Derived.Test.YtnlaaejdianfjaaGreatQsac
import Derived.Deep.Trees
namespace Go.Proofs.YtnlaaejdianfjaaGreat
open Go.RowKit
set_option linter.unusedVariables false

end Go.Proofs.YtnlaaejdianfjaaGreat
namespace Go.Proofs.YtnlaaejdianfjaaGreat
open Go.RowKit
set_option linter.unusedVariables false

end Go.Proofs.YtnlaaejdianfjaaGreat
namespace Go.Proofs.YtnlaaejdianfjaaGreat
open Go.RowKit
set_option linter.unusedVariables false
set_option linter.unusedSimpArgs false

end Go.Proofs.YtnlaaejdianfjaaGreat
namespace Go.Proofs.YtnlaaejdianfjaaGreat
open Go.RowKit
set_option linter.unusedVariables false
set_option linter.unusedSimpArgs false

end Go.Proofs.YtnlaaejdianfjaaGreat
namespace Go.Proofs.YtnlaaejdianfjaaGreat
open Go.RowKit
set_option linter.unusedVariables false
set_option linter.unusedSimpArgs false

end Go.Proofs.YtnlaaejdianfjaaGreat
namespace Go.Proofs.YtnlaaejdianfjaaGreat
open Go.RowKit
set_option linter.unusedVariables false
set_option linter.unusedSimpArgs false

end Go.Proofs.YtnlaaejdianfjaaGreat
namespace Go.Proofs.YtnlaaejdianfjaaGreat
open Go.RowKit
set_option linter.unusedVariables false
set_option linter.unusedSimpArgs false

end Go.Proofs.YtnlaaejdianfjaaGreat
namespace Go.Proofs.YtnlaaejdianfjaaGreat
open Go.RowKit
set_option linter.unusedVariables false
set_option linter.unusedSimpArgs false

abbrev clC (c : Cl3) : List Value := [.string c.1, .string c.2.1, .int .i64 c.2.2]
end Go.Proofs.YtnlaaejdianfjaaGreat
namespace Go.Proofs.YtnlaaejdianfjaaGreat
open Go.RowKit
set_option linter.unusedVariables false
set_option linter.unusedSimpArgs false

/-- A statement as typed looks at it. -/
structure Sq where
  kind : Int
  table : ByteArray
  name : ByteArray
  values : List (Pg × Tg)
  items : List It
  join : ByteArray
  on : List (Pg × Tg)
  wh : List (Pg × Tg)
  order : List (Pg × Tg)
end Go.Proofs.YtnlaaejdianfjaaGreat
namespace Go.Proofs.YtnlaaejdianfjaaGreat
open Go.RowKit
set_option linter.unusedVariables false
set_option linter.unusedSimpArgs false

end Go.Proofs.YtnlaaejdianfjaaGreat
namespace Go.Proofs.YtnlaaejdianfjaaGreat
open Go.RowKit
set_option linter.unusedVariables false
set_option linter.unusedSimpArgs false

end Go.Proofs.YtnlaaejdianfjaaGreat
namespace Go.Proofs.YtnlaaejdianfjaaGreat
open Go.RowKit
set_option linter.unusedVariables false
set_option linter.unusedSimpArgs false

end Go.Proofs.YtnlaaejdianfjaaGreat
namespace Go.Proofs.YtnlaaejdianfjaaGreat
open Go.RowKit
set_option linter.unusedVariables false
set_option linter.unusedSimpArgs false

end Go.Proofs.YtnlaaejdianfjaaGreat
namespace Go.Proofs.YtnlaaejdianfjaaGreat
open Go.RowKit
set_option linter.unusedVariables false
set_option linter.unusedSimpArgs false

end Go.Proofs.YtnlaaejdianfjaaGreat
namespace Go.Proofs.YtnlaaejdianfjaaGreat
open Go.RowKit
set_option linter.unusedVariables false
set_option linter.unusedSimpArgs false

def pairP (C : List It) (K : List Int) : List Cl3 := (C.zip K).map fun x => (x.1.2.1, x.1.2.2, x.2)
abbrev tbT : Tbl := ⟨⟨#[116]⟩, [(⟨#[107]⟩, 1, ⟨#[]⟩), (⟨#[118]⟩, 2, ⟨#[]⟩), (⟨#[110]⟩, 1, ⟨#[]⟩)], [⟨#[110]⟩]⟩
abbrev tbU : Tbl := ⟨⟨#[117]⟩, [(⟨#[107]⟩, 2, ⟨#[]⟩), (⟨#[114]⟩, 1, ⟨#[116]⟩), (⟨#[110]⟩, 1, ⟨#[]⟩)], []⟩
abbrev tbs : List Tbl := [tbT, tbU]
end Go.Proofs.YtnlaaejdianfjaaGreat
namespace Go.Proofs.YtnlaaejdianfjaaGreat
open Go.RowKit
set_option linter.unusedVariables false
set_option linter.unusedSimpArgs false

end Go.Proofs.YtnlaaejdianfjaaGreat
namespace Go.Proofs.YtnlaaejdianfjaaGreat
open Go.RowKit
set_option linter.unusedVariables false
set_option linter.unusedSimpArgs false

end Go.Proofs.YtnlaaejdianfjaaGreat
namespace Go.Proofs.YtnlaaejdianfjaaGreat
open Go.RowKit
set_option linter.unusedVariables false
set_option linter.unusedSimpArgs false

end Go.Proofs.YtnlaaejdianfjaaGreat
namespace Go.Proofs.YtnlaaejdianfjaaGreat
open Go.RowKit
set_option linter.unusedVariables false
set_option linter.unusedSimpArgs false

end Go.Proofs.YtnlaaejdianfjaaGreat
namespace Go.Proofs.YtnlaaejdianfjaaGreat
open Go.RowKit
set_option linter.unusedVariables false
set_option linter.unusedSimpArgs false

abbrev nP : Pay := (0, 0, ⟨#[]⟩, ⟨#[]⟩, ⟨#[]⟩)
abbrev litP (k i : Int) : Pg := (1, k, i, ⟨#[]⟩, ⟨#[]⟩, ⟨#[]⟩)
abbrev xEq : Pg × Tg := ((8, nP), .node 0 0 (litP 1 1) .nil (.node 0 0 (litP 1 1) .nil .nil))
abbrev xNot : Pg × Tg := ((4, nP), .node 0 0 (litP 1 1) .nil .nil)
abbrev qSel : Sq := ⟨6, ⟨#[113]⟩, ⟨#[]⟩, [], [], ⟨#[]⟩, [], [], []⟩
abbrev sSel : Sv := ⟨6, ⟨#[113]⟩, ⟨#[]⟩, (none, 0, 0), (none, 0, 0), (none, 0, 0), (none, 0, 0), ⟨#[]⟩, (none, 0, 0), (none, 0, 0), (none, 0, 0), false, (none, 0, 0)⟩
end Go.Proofs.YtnlaaejdianfjaaGreat
namespace Go.Proofs.YtnlaaejdianfjaaGreat
open Go.RowKit
set_option linter.unusedVariables false
set_option linter.unusedSimpArgs false

/-- Two literals, one beside the other, and a way. -/
abbrev litV (v : Vt) : Pg := (1, v.1, v.2.1, v.2.2, ⟨#[]⟩, ⟨#[]⟩)
abbrev xTwo (op : Int) (a b : Vt) : Pg × Tg := ((op, nP), .node 0 0 (litV a) .nil (.node 0 0 (litV b) .nil .nil))
end Go.Proofs.YtnlaaejdianfjaaGreat
namespace Go.Proofs.YtnlaaejdianfjaaGreat
open Go.RowKit
set_option linter.unusedVariables false
set_option linter.unusedSimpArgs false

end Go.Proofs.YtnlaaejdianfjaaGreat
namespace Go.Proofs.YtnlaaejdianfjaaGreat
open Go.ChangeShapes Go.WideShapes Go.ChangeAt Go.RowKit
set_option linter.unusedVariables false

theorem own : ownKnob Tryz.prog.godebug = none := by kernel_rfl
theorem laidOut : laidOutB Tryz.prog = true := by kernel_rfl

end Go.Proofs.YtnlaaejdianfjaaGreat
namespace Go.Proofs.YtnlaaejdianfjaaGreat
open Go.ChangeShapes Go.WideShapes Go.ChangeAt Go.RowKit
set_option linter.unusedVariables false
set_option linter.unusedSimpArgs false

theorem cVal : Tryz.prog.cellsOf 44 = 3 := by kernel_rfl
theorem cI64 : Tryz.prog.cellsOf 2 = 1 := by kernel_rfl
theorem cInt : Tryz.prog.cellsOf 3 = 1 := by kernel_rfl
theorem cStr : Tryz.prog.cellsOf 9 = 1 := by kernel_rfl
theorem addr1 (b o m : Nat) : (⟨b, o, none⟩ : Addr).add m = ⟨b, o + m, none⟩ := by unfold Addr.add; split <;> simp_all
theorem addrV_at (b o i j : Nat) : ((⟨b, o, none⟩ : Addr).add i).add j = ⟨b, o + i + j, none⟩ := by rw [addr1, addr1]
end Go.Proofs.YtnlaaejdianfjaaGreat
namespace Go.Proofs.YtnlaaejdianfjaaGreat
open Go.RowKit
set_option linter.unusedVariables false
set_option linter.unusedSimpArgs false

abbrev C0 : Cl2 := [((0, ⟨#[116]⟩, ⟨#[107]⟩), 1), ((0, ⟨#[116]⟩, ⟨#[118]⟩), 2), ((0, ⟨#[116]⟩, ⟨#[110]⟩), 1)]
abbrev S0 : List Cl3 := pairP (C0.map Prod.fst) (C0.map Prod.snd)
/-- An expression alone in another, twice in another. -/
abbrev inOne (op : Int) (x : Pg × Tg) : Pg × Tg := ((op, nP), .node 0 0 x.1 x.2 .nil)
abbrev inTwo (op : Int) (x : Pg × Tg) : Pg × Tg := ((op, nP), .node 0 0 x.1 x.2 (.node 0 0 x.1 x.2 .nil))
end Go.Proofs.YtnlaaejdianfjaaGreat
namespace Go.Proofs.YtnlaaejdianfjaaGreat
open Go.RowKit
set_option linter.unusedVariables false
set_option linter.unusedSimpArgs false

abbrev vC (v : Vt) : List Value := [.int .i64 v.1, .int .i64 v.2.1, .string v.2.2]
end Go.Proofs.YtnlaaejdianfjaaGreat
namespace Go.Proofs.YtnlaaejdianfjaaGreat
open Go.RowKit
set_option linter.unusedVariables false
set_option linter.unusedSimpArgs false

def nmT (i : Nat) : ByteArray := if i % 2 = 0 then ⟨#[116]⟩ else ⟨#[117]⟩
def nmN (i : Nat) : ByteArray := if i / 2 = 0 then ⟨#[97]⟩ else if i / 2 = 1 then ⟨#[98]⟩ else ⟨#[99]⟩
abbrev itK (i : Nat) : It := (0, nmT i, nmN i)
abbrev xCol (tb nm : ByteArray) : Pg × Tg := ((2, 0, 0, ⟨#[]⟩, tb, nm), .nil)
abbrev xCe (tb nm : ByteArray) (v : Vt) : Pg × Tg := ((8, nP), .node 0 0 (2, 0, 0, ⟨#[]⟩, tb, nm) .nil (.node 0 0 (litV v) .nil .nil))
end Go.Proofs.YtnlaaejdianfjaaGreat
namespace Go.Proofs.YtnlaaejdianfjaaGreat
open Go.RowKit
set_option linter.unusedVariables false
set_option linter.unusedSimpArgs false

/-- A row, by its head. -/
def eRow : Ek (List Vt) := ⟨1, fun Q w V cs => ∃ a n c, cs = [.slice a n c] ∧ RowIs eVal Q w (.slice a n c) V,
  fun hk ⟨a, n, c, h1, h2⟩ => ⟨a, n, c, h1, h2.keep (by decide) hk⟩, fun hk ⟨a, n, c, h1, h2⟩ => ⟨a, n, c, h1, h2.mono (by decide) hk⟩⟩
theorem row1 {Q : Nat → Prop} {w : World} {a : Option Addr} {n c : Nat} {l : List (List Vt)} (h : RowIs eRow Q w (.slice a n c) l) {k : Nat} (hk : k < l.length) : ∃ b o ra rn rc, a = some ⟨b, o, none⟩ ∧ Q b ∧ w.cell? ⟨b, o + k, none⟩ = some (.slice ra rn rc) ∧ RowIs eVal Q w (.slice ra rn rc) l[k] := by
  obtain ⟨_, _, _, e, h1, h2, h3, h4⟩ := h
  cases e
  obtain ⟨b, o, e, hq, hi⟩ := h4 (by omega)
  obtain ⟨cs, ⟨ra, rn, rc, rfl, hr⟩, hl, hc⟩ := hi k hk
  refine ⟨b, o, ra, rn, rc, e, hq, ?_, hr⟩
  have := hc 0 (show 0 < 1 by decide)
  simpa [eRow] using this
theorem runV_eqN (k i : Int) (s : ByteArray) (w : World) :
    (binOp .neq 44 (.agg #[.int .i64 k, .int .i64 i, .string s]) (.agg #[.int .i64 k, .int .i64 i, .string s])).run Tryz.prog w = .ok (.bool false) w := by
  go_simp
theorem runV_neN {k i : Int} {s : ByteArray} {k' i' : Int} {s' : ByteArray} (h : ¬ (k = k' ∧ i = i' ∧ s = s')) (w : World) :
    (binOp .neq 44 (.agg #[.int .i64 k, .int .i64 i, .string s]) (.agg #[.int .i64 k', .int .i64 i', .string s'])).run Tryz.prog w = .ok (.bool true) w := by
  by_cases h1 : k = k'
  · by_cases h2 : i = i'
    · have h3 : (s.toList == s'.toList) = false := by
        rw [same_nums, decide_eq_false_iff_not]
        intro e
        exact h ⟨h1, h2, nums_inj (lexI_zero e)⟩
      subst h1 h2
      go_simp
    · have h3 : (i == i') = false := by simpa using h2
      have h4 : decide (i = i') = false := by simpa using h2
      subst h1
      go_simp
  · have h3 : (k == k') = false := by simpa using h1
    have h4 : decide (k = k') = false := by simpa using h1
    go_simp
theorem wrapS {k n c : Nat} (h : k < n) (h2 : n ≤ c) (h3 : c ≤ 9223372036854775807) : IntKind.i64.wrap ((k : Int) + 1) = (k : Int) + 1 := by
  show (if (true && decide (((k : Int) + 1) % (2 ^ 64 : Int) ≥ (2 ^ (64 - 1) : Int))) = true then ((k : Int) + 1) % (2 ^ 64 : Int) - (2 ^ 64 : Int) else ((k : Int) + 1) % (2 ^ 64 : Int)) = _
  rw [if_neg (by simp; omega)]
  omega
theorem eq_upto {α : Type} {l m : List α} (hl : l.length = m.length) (h : ∀ i (h1 : i < l.length) (h2 : i < m.length), l[i] = m[i]) : l = m := List.ext_getElem hl h
set_option maxRecDepth 100000 in
set_option maxHeartbeats 4000000 in
theorem sameRow_any {U V : List Vt} {Q1 Q2 : Nat → Prop} {w : World} {a1 : Option Addr} {n1 c1 : Nat} {a2 : Option Addr} {n2 c2 : Nat} (h1 : RowIs eVal Q1 w (.slice a1 n1 c1) U) (h2 : RowIs eVal Q2 w (.slice a2 n2 c2) V) :
    Calls Tryz.prog 42 #[.slice a1 n1 c1, .slice a2 n2 c2] w fun e w' => e = .returned (.bool (decide (U = V))) ∧ Below w.heap.size w w' := by
  obtain ⟨l1, l2, l3⟩ := row_lens h1
  obtain ⟨m1, m2, m3⟩ := row_lens h2
  have HR1 : Hid (∀ w', Below w.heap.size w w' → RowIs eVal Q1 w' (.slice a1 n1 c1) U) := hid fun w' hb => h1.keep (by decide) fun b _ hl => hb.block b hl
  have HR2 : Hid (∀ w', Below w.heap.size w w' → RowIs eVal Q2 w' (.slice a2 n2 c2) V) := hid fun w' hb => h2.keep (by decide) fun b _ hl => hb.block b hl
  clear h1 h2
  obtain ⟨T, hT⟩ : ∃ T, decide (U = V) = T := ⟨_, rfl⟩
  have HT : Hid _ := hid hT
  rw [hT]
  clear hT
  by_cases hn : n1 = n2
  · subst hn
    go_enter Tryz.func42, Tryz.ntmps42
    go_wp2
    go_loopw [5] (fun v5 wr => ∃ k : Nat, k ≤ n1 ∧ v5 = .int .i64 k ∧ Below w.heap.size w wr ∧ Hid (∀ i (h1 : i < U.length) (h2 : i < V.length), i < k → U[i] = V[i])) (fun i _ => n1 - (intOf i).toNat)
    case atStart => exact ⟨0, Nat.zero_le _, rfl, Below.refl _ _, hid fun i h1 h2 h3 => absurd h3 (by omega)⟩
    case round =>
      obtain ⟨k, hk, rfl, hB, HD⟩ := hrel
      by_cases hlt : k < n1
      · obtain ⟨b, o, rfl, -, x0, x1, x2⟩ := val1 (HR1.out wr hB) (k := k) (by omega)
        obtain ⟨b', o', rfl, -, y0, y1, y2⟩ := val1 (HR2.out wr hB) (k := k) (by omega)
        obtain ⟨X, hX⟩ : ∃ x, U[k]'(by omega) = x := ⟨_, rfl⟩
        obtain ⟨Y, hY⟩ : ∃ x, V[k]'(by omega) = x := ⟨_, rfl⟩
        rw [hX] at x0 x1 x2
        rw [hY] at y0 y1 y2
        have HX : Hid _ := hid hX
        have HY : Hid _ := hid hY
        have hkm : (k : Int) < (n1 : Int) := by omega
        have hwk := wrapS hlt l2 l3
        clear hX hY
        by_cases he : X = Y
        · subst he
          have HN : Hid (∀ i (h1 : i < U.length) (h2 : i < V.length), i < k + 1 → U[i] = V[i]) := hid fun i h1 h2 h3 => by
            by_cases hi : i < k
            · exact HD.out i h1 h2 hi
            · obtain rfl : i = k := by omega
              rw [HX.out, HY.out]
          obtain ⟨X0, X1, X2⟩ := X
          dsimp only at *
          have hrq := fun w => runV_eqN X0 X1 X2 w
          clear HD
          go_wp2
          go_quiet (fail)
          have hB2 := below_drewN hB nq
          generalize wr.drewN nq = W at *
          clear hB
          go_wp2
          go_roundw
          case rel => exact ⟨k + 1, by omega, by go_num, hB2, HN⟩
          case measure => simp only [intOf]; omega
        · have HF : Hid (T = false) := hid (by
            rw [← HT.out, decide_eq_false_iff_not]
            intro h
            subst h
            exact he (HX.out.symm.trans HY.out))
          obtain ⟨X0, X1, X2⟩ := X
          obtain ⟨Y0, Y1, Y2⟩ := Y
          dsimp only at *
          have hrq := fun w => runV_neN (k := X0) (i := X1) (s := X2) (k' := Y0) (i' := Y1) (s' := Y2) (fun h => he (by rw [h.1, h.2.1, h.2.2])) w
          clear HD HX HY
          go_wp2
          go_quiet (fail)
          have hB2 := below_drewN hB nq
          generalize wr.drewN nq = W at *
          clear hB
          go_wp2
          go_ret
          exact ⟨ret_bool HF.out.symm, hB2⟩
      · obtain rfl : k = n1 := by omega
        have HF : Hid (T = true) := hid (by
          rw [← HT.out, decide_eq_true_eq]
          exact eq_upto (by omega) fun i h1 h2 => HD.out i h1 h2 (by omega))
        clear HD
        go_wp2
        go_ret
        exact ⟨ret_bool HF.out.symm, hB⟩
  · have g1 : ((n1 : Int) != (n2 : Int)) = true := by simp; omega
    have g2 : decide ((n1 : Int) = (n2 : Int)) = false := by simp; omega
    have HF : Hid (T = false) := hid (by
      rw [← HT.out, decide_eq_false_iff_not]
      intro h
      subst h
      omega)
    go_enter Tryz.func42, Tryz.ntmps42
    go_wp2
    go_ret
    exact ⟨ret_bool HF.out.symm, Below.refl _ _⟩

set_option maxRecDepth 100000 in
set_option maxHeartbeats 4000000 in
theorem sameRows_any {U V : List (List Vt)} {Q1 Q2 : Nat → Prop} {w : World} {a1 : Option Addr} {n1 c1 : Nat} {a2 : Option Addr} {n2 c2 : Nat} (h1 : RowIs eRow Q1 w (.slice a1 n1 c1) U) (h2 : RowIs eRow Q2 w (.slice a2 n2 c2) V) :
    Calls Tryz.prog 14 #[.slice a1 n1 c1, .slice a2 n2 c2] w fun e w' => e = .returned (.bool (decide (U = V))) ∧ Below w.heap.size w w' := by
  obtain ⟨l1, l2, l3⟩ := row_lens h1
  obtain ⟨m1, m2, m3⟩ := row_lens h2
  have HR1 : Hid (∀ w', Below w.heap.size w w' → RowIs eRow Q1 w' (.slice a1 n1 c1) U) := hid fun w' hb => h1.keep (by decide) fun b _ hl => hb.block b hl
  have HR2 : Hid (∀ w', Below w.heap.size w w' → RowIs eRow Q2 w' (.slice a2 n2 c2) V) := hid fun w' hb => h2.keep (by decide) fun b _ hl => hb.block b hl
  clear h1 h2
  obtain ⟨T, hT⟩ : ∃ T, decide (U = V) = T := ⟨_, rfl⟩
  have HT : Hid _ := hid hT
  rw [hT]
  clear hT
  by_cases hn : n1 = n2
  · subst hn
    go_enter Tryz.func14, Tryz.ntmps14
    go_wp2
    go_loopw [5] (fun v5 wr => ∃ k : Nat, k ≤ n1 ∧ v5 = .int .i64 k ∧ Below w.heap.size w wr ∧ Hid (∀ i (h1 : i < U.length) (h2 : i < V.length), i < k → U[i] = V[i])) (fun i _ => n1 - (intOf i).toNat)
    case atStart => exact ⟨0, Nat.zero_le _, rfl, Below.refl _ _, hid fun i h1 h2 h3 => absurd h3 (by omega)⟩
    case round =>
      obtain ⟨k, hk, rfl, hB, HD⟩ := hrel
      by_cases hlt : k < n1
      · obtain ⟨b, o, xa, xn, xc, rfl, -, x0, rx⟩ := row1 (HR1.out wr hB) (k := k) (by omega)
        obtain ⟨b', o', ya, yn, yc, rfl, -, y0, ry⟩ := row1 (HR2.out wr hB) (k := k) (by omega)
        obtain ⟨X, hX⟩ : ∃ x, U[k]'(by omega) = x := ⟨_, rfl⟩
        obtain ⟨Y, hY⟩ : ∃ x, V[k]'(by omega) = x := ⟨_, rfl⟩
        rw [hX] at rx
        rw [hY] at ry
        have HX : Hid _ := hid hX
        have HY : Hid _ := hid hY
        have HS : Hid (∀ w', Below wr.heap.size wr w' → _) := hid fun w' hb => sameRow_any (rx.keep (w' := w') (by decide) fun b _ hl => hb.block b hl) (ry.keep (by decide) fun b _ hl => hb.block b hl)
        have hkm : (k : Int) < (n1 : Int) := by omega
        have hwk := wrapS hlt l2 l3
        clear hX hY rx ry
        by_cases he : X = Y
        · have HN : Hid (∀ i (h1 : i < U.length) (h2 : i < V.length), i < k + 1 → U[i] = V[i]) := hid fun i h1 h2 h3 => by
            by_cases hi : i < k
            · exact HD.out i h1 h2 hi
            · obtain rfl : i = k := by omega
              rw [HX.out, HY.out, he]
          rw [show decide (X = Y) = true from by simpa using he] at HS
          clear HD
          go_upto_region 6 with fail
          have hY : Below wr.heap.size wr wr.drew := (Below.refl _ wr).drew
          refine wp_region_held_drew (S := fun w' => w'.cell? ⟨b, o + k, none⟩ = some (.slice xa xn xc) ∧ w'.cell? ⟨b', o' + k, none⟩ = some (.slice ya yn yc)) (by kernel_rfl) (⟨cell_later hY x0, cell_later hY y0⟩) (fun hHeld => ?_)
          generalize wr.drew = y at *
          refine wpAnyH_take (i := 0) (v := ?tv2001) rfl (by kernel_rfl) (by kernel_rfl) (by kernel_rfl) (fun _ _ _ h => h) (Or.inl ⟨by rfl, ?hy2001⟩) (by assumption) ?rs2001
          case hy2001 => (intro w9 hSw; (try dsimp only at hSw); go_simp; (try with_reducible rfl))
          (try simp only [Act.put, List.getElem_toArray, List.getElem_cons_zero, List.getElem_cons_succ, List.setIfInBounds_toArray, List.set_cons_zero, List.set_cons_succ])
          refine wpAnyH_take (i := 1) (v := ?tv2002) rfl (by kernel_rfl) (by kernel_rfl) (by kernel_rfl) (fun _ _ _ h => h) (Or.inl ⟨by rfl, ?hy2002⟩) (by assumption) ?rs2002
          case hy2002 => (intro w9 hSw; (try dsimp only at hSw); go_simp; (try with_reducible rfl))
          (try simp only [Act.put, List.getElem_toArray, List.getElem_cons_zero, List.getElem_cons_succ, List.setIfInBounds_toArray, List.set_cons_zero, List.set_cons_succ])
          refine wpAnyH_take (i := 2) (v := ?tv2003) rfl (by kernel_rfl) (by kernel_rfl) (by kernel_rfl) (fun _ _ _ h => h) (Or.inl ⟨by rfl, ?hy2003⟩) (by assumption) ?rs2003
          case hy2003 => (intro w9 hSw; (try dsimp only at hSw); go_simp; (try with_reducible rfl))
          (try simp only [Act.put, List.getElem_toArray, List.getElem_cons_zero, List.getElem_cons_succ, List.setIfInBounds_toArray, List.set_cons_zero, List.set_cons_succ])
          refine wpAnyH_take (i := 3) (v := ?tv2004) rfl (by kernel_rfl) (by kernel_rfl) (by kernel_rfl) (fun _ _ _ h => h) (Or.inl ⟨by rfl, ?hy2004⟩) (by assumption) ?rs2004
          case hy2004 => (intro w9 hSw; (try dsimp only at hSw); go_simp; (try with_reducible rfl))
          (try simp only [Act.put, List.getElem_toArray, List.getElem_cons_zero, List.getElem_cons_succ, List.setIfInBounds_toArray, List.set_cons_zero, List.set_cons_succ])
          refine wpAnyH_take (i := 4) (v := ?tv2005) rfl (by kernel_rfl) (by kernel_rfl) (by kernel_rfl) (fun _ _ _ h => h) (Or.inl ⟨by rfl, ?hy2005⟩) (by assumption) ?rs2005
          case hy2005 => (intro w9 hSw; (try dsimp only at hSw); go_simp; (try with_reducible rfl))
          (try simp only [Act.put, List.getElem_toArray, List.getElem_cons_zero, List.getElem_cons_succ, List.setIfInBounds_toArray, List.set_cons_zero, List.set_cons_succ])
          refine wpAnyH_take (i := 5) (v := ?tv2006) rfl (by kernel_rfl) (by kernel_rfl) (by kernel_rfl) (fun _ _ _ h => h) (Or.inl ⟨by rfl, ?hy2006⟩) (by assumption) ?rs2006
          case hy2006 => (intro w9 hSw; (try dsimp only at hSw); go_simp; (try with_reducible rfl))
          (try simp only [Act.put, List.getElem_toArray, List.getElem_cons_zero, List.getElem_cons_succ, List.setIfInBounds_toArray, List.set_cons_zero, List.set_cons_succ])
          refine wpAnyH_take (i := 6) (v := ?tv2007) rfl (by kernel_rfl) (by kernel_rfl) (by kernel_rfl) (fun _ _ _ h => h) (Or.inl ⟨by rfl, ?hy2007⟩) (by assumption) ?rs2007
          case hy2007 => (intro w9 hSw; (try dsimp only at hSw); go_simp; (try with_reducible rfl))
          (try simp only [Act.put, List.getElem_toArray, List.getElem_cons_zero, List.getElem_cons_succ, List.setIfInBounds_toArray, List.set_cons_zero, List.set_cons_succ])
          refine wpAnyH_take (i := 7) (v := ?tv2008) rfl (by kernel_rfl) (by kernel_rfl) (by kernel_rfl) (fun _ _ _ h => h) (Or.inl ⟨by rfl, ?hy2008⟩) (by assumption) ?rs2008
          case hy2008 => (intro w9 hSw; (try dsimp only at hSw); go_simp; (try with_reducible rfl))
          (try simp only [Act.put, List.getElem_toArray, List.getElem_cons_zero, List.getElem_cons_succ, List.setIfInBounds_toArray, List.set_cons_zero, List.set_cons_succ])
          refine wpAnyH_ready (rs := [8]) (by kernel_rfl) (by simp) ?_
          refine AllReadyH.cons rfl (fun K hK => ?_) AllReadyH.nil
          go_simp
          go_wp2_with (first | (go_at_call 42; (refine Calls.mono (HS.out _ hY) ?_); rintro e y1 ⟨rfl, hby⟩))
          replace hY := Below.on hY hby
          refine hK.out _ _ (⟨cell_later hY x0, cell_later hY y0⟩) (fun hHeld => ?_)
          clear hK K hby
          (try simp only [Act.put, List.getElem_toArray, List.getElem_cons_zero, List.getElem_cons_succ, List.setIfInBounds_toArray, List.set_cons_zero, List.set_cons_succ])
          refine wpAnyH_take (i := 9) (v := ?tv2009) rfl (by kernel_rfl) (by kernel_rfl) (by kernel_rfl) (fun _ _ _ h => h) (Or.inl ⟨by rfl, ?hy2009⟩) (by assumption) ?rs2009
          case hy2009 => (intro w9 hSw; (try dsimp only at hSw); go_simp; (try with_reducible rfl))
          (try simp only [Act.put, List.getElem_toArray, List.getElem_cons_zero, List.getElem_cons_succ, List.setIfInBounds_toArray, List.set_cons_zero, List.set_cons_succ])
          refine wpAnyH_done (by kernel_rfl) ?_ _
          clear hHeld
          replace hB := Below.on hB hY
          go_wp2
          go_roundw
          case rel => exact ⟨k + 1, by omega, by go_num, hB, HN⟩
          case measure => simp only [intOf]; omega
        · have HF : Hid (T = false) := hid (by
            rw [← HT.out, decide_eq_false_iff_not]
            intro h
            subst h
            exact he (HX.out.symm.trans HY.out))
          rw [show decide (X = Y) = false from by simpa using he] at HS
          clear HD HX HY
          go_upto_region 6 with fail
          have hY : Below wr.heap.size wr wr.drew := (Below.refl _ wr).drew
          refine wp_region_held_drew (S := fun w' => w'.cell? ⟨b, o + k, none⟩ = some (.slice xa xn xc) ∧ w'.cell? ⟨b', o' + k, none⟩ = some (.slice ya yn yc)) (by kernel_rfl) (⟨cell_later hY x0, cell_later hY y0⟩) (fun hHeld => ?_)
          generalize wr.drew = y at *
          refine wpAnyH_take (i := 0) (v := ?tv2010) rfl (by kernel_rfl) (by kernel_rfl) (by kernel_rfl) (fun _ _ _ h => h) (Or.inl ⟨by rfl, ?hy2010⟩) (by assumption) ?rs2010
          case hy2010 => (intro w9 hSw; (try dsimp only at hSw); go_simp; (try with_reducible rfl))
          (try simp only [Act.put, List.getElem_toArray, List.getElem_cons_zero, List.getElem_cons_succ, List.setIfInBounds_toArray, List.set_cons_zero, List.set_cons_succ])
          refine wpAnyH_take (i := 1) (v := ?tv2011) rfl (by kernel_rfl) (by kernel_rfl) (by kernel_rfl) (fun _ _ _ h => h) (Or.inl ⟨by rfl, ?hy2011⟩) (by assumption) ?rs2011
          case hy2011 => (intro w9 hSw; (try dsimp only at hSw); go_simp; (try with_reducible rfl))
          (try simp only [Act.put, List.getElem_toArray, List.getElem_cons_zero, List.getElem_cons_succ, List.setIfInBounds_toArray, List.set_cons_zero, List.set_cons_succ])
          refine wpAnyH_take (i := 2) (v := ?tv2012) rfl (by kernel_rfl) (by kernel_rfl) (by kernel_rfl) (fun _ _ _ h => h) (Or.inl ⟨by rfl, ?hy2012⟩) (by assumption) ?rs2012
          case hy2012 => (intro w9 hSw; (try dsimp only at hSw); go_simp; (try with_reducible rfl))
          (try simp only [Act.put, List.getElem_toArray, List.getElem_cons_zero, List.getElem_cons_succ, List.setIfInBounds_toArray, List.set_cons_zero, List.set_cons_succ])
          refine wpAnyH_take (i := 3) (v := ?tv2013) rfl (by kernel_rfl) (by kernel_rfl) (by kernel_rfl) (fun _ _ _ h => h) (Or.inl ⟨by rfl, ?hy2013⟩) (by assumption) ?rs2013
          case hy2013 => (intro w9 hSw; (try dsimp only at hSw); go_simp; (try with_reducible rfl))
          (try simp only [Act.put, List.getElem_toArray, List.getElem_cons_zero, List.getElem_cons_succ, List.setIfInBounds_toArray, List.set_cons_zero, List.set_cons_succ])
          refine wpAnyH_take (i := 4) (v := ?tv2014) rfl (by kernel_rfl) (by kernel_rfl) (by kernel_rfl) (fun _ _ _ h => h) (Or.inl ⟨by rfl, ?hy2014⟩) (by assumption) ?rs2014
          case hy2014 => (intro w9 hSw; (try dsimp only at hSw); go_simp; (try with_reducible rfl))
          (try simp only [Act.put, List.getElem_toArray, List.getElem_cons_zero, List.getElem_cons_succ, List.setIfInBounds_toArray, List.set_cons_zero, List.set_cons_succ])
          refine wpAnyH_take (i := 5) (v := ?tv2015) rfl (by kernel_rfl) (by kernel_rfl) (by kernel_rfl) (fun _ _ _ h => h) (Or.inl ⟨by rfl, ?hy2015⟩) (by assumption) ?rs2015
          case hy2015 => (intro w9 hSw; (try dsimp only at hSw); go_simp; (try with_reducible rfl))
          (try simp only [Act.put, List.getElem_toArray, List.getElem_cons_zero, List.getElem_cons_succ, List.setIfInBounds_toArray, List.set_cons_zero, List.set_cons_succ])
          refine wpAnyH_take (i := 6) (v := ?tv2016) rfl (by kernel_rfl) (by kernel_rfl) (by kernel_rfl) (fun _ _ _ h => h) (Or.inl ⟨by rfl, ?hy2016⟩) (by assumption) ?rs2016
          case hy2016 => (intro w9 hSw; (try dsimp only at hSw); go_simp; (try with_reducible rfl))
          (try simp only [Act.put, List.getElem_toArray, List.getElem_cons_zero, List.getElem_cons_succ, List.setIfInBounds_toArray, List.set_cons_zero, List.set_cons_succ])
          refine wpAnyH_take (i := 7) (v := ?tv2017) rfl (by kernel_rfl) (by kernel_rfl) (by kernel_rfl) (fun _ _ _ h => h) (Or.inl ⟨by rfl, ?hy2017⟩) (by assumption) ?rs2017
          case hy2017 => (intro w9 hSw; (try dsimp only at hSw); go_simp; (try with_reducible rfl))
          (try simp only [Act.put, List.getElem_toArray, List.getElem_cons_zero, List.getElem_cons_succ, List.setIfInBounds_toArray, List.set_cons_zero, List.set_cons_succ])
          refine wpAnyH_ready (rs := [8]) (by kernel_rfl) (by simp) ?_
          refine AllReadyH.cons rfl (fun K hK => ?_) AllReadyH.nil
          go_simp
          go_wp2_with (first | (go_at_call 42; (refine Calls.mono (HS.out _ hY) ?_); rintro e y1 ⟨rfl, hby⟩))
          replace hY := Below.on hY hby
          refine hK.out _ _ (⟨cell_later hY x0, cell_later hY y0⟩) (fun hHeld => ?_)
          clear hK K hby
          (try simp only [Act.put, List.getElem_toArray, List.getElem_cons_zero, List.getElem_cons_succ, List.setIfInBounds_toArray, List.set_cons_zero, List.set_cons_succ])
          refine wpAnyH_take (i := 9) (v := ?tv2018) rfl (by kernel_rfl) (by kernel_rfl) (by kernel_rfl) (fun _ _ _ h => h) (Or.inl ⟨by rfl, ?hy2018⟩) (by assumption) ?rs2018
          case hy2018 => (intro w9 hSw; (try dsimp only at hSw); go_simp; (try with_reducible rfl))
          (try simp only [Act.put, List.getElem_toArray, List.getElem_cons_zero, List.getElem_cons_succ, List.setIfInBounds_toArray, List.set_cons_zero, List.set_cons_succ])
          refine wpAnyH_done (by kernel_rfl) ?_ _
          clear hHeld
          replace hB := Below.on hB hY
          go_wp2
          go_ret
          exact ⟨ret_bool HF.out.symm, hB⟩
      · obtain rfl : k = n1 := by omega
        have HF : Hid (T = true) := hid (by
          rw [← HT.out, decide_eq_true_eq]
          exact eq_upto (by omega) fun i h1 h2 => HD.out i h1 h2 (by omega))
        clear HD
        go_wp2
        go_ret
        exact ⟨ret_bool HF.out.symm, hB⟩
  · have g1 : ((n1 : Int) != (n2 : Int)) = true := by simp; omega
    have g2 : decide ((n1 : Int) = (n2 : Int)) = false := by simp; omega
    have HF : Hid (T = false) := hid (by
      rw [← HT.out, decide_eq_false_iff_not]
      intro h
      subst h
      omega)
    go_enter Tryz.func14, Tryz.ntmps14
    go_wp2
    go_ret
    exact ⟨ret_bool HF.out.symm, Below.refl _ _⟩

end Go.Proofs.YtnlaaejdianfjaaGreat
namespace Go.Proofs.YtnlaaejdianfjaaGreat
open Go.RowKit
set_option linter.unusedVariables false

end Go.Proofs.YtnlaaejdianfjaaGreat
namespace Go.Proofs.YtnlaaejdianfjaaGreat
open Go.RowKit
set_option linter.unusedVariables false
set_option linter.unusedSimpArgs false

end Go.Proofs.YtnlaaejdianfjaaGreat
namespace Go.Proofs.YtnlaaejdianfjaaGreat
open Go.RowKit
set_option linter.unusedVariables false
set_option linter.unusedSimpArgs false

end Go.Proofs.YtnlaaejdianfjaaGreat
namespace Go.Proofs.YtnlaaejdianfjaaGreat
open Go.RowKit
set_option linter.unusedVariables false
set_option linter.unusedSimpArgs false

theorem Tryz.infoTRow : (Tryz.prog.info? 42).map (fun i => (i.zero, i.size, i.bytes)) = some (some (.slice none 0 0), 1, 24) := by kernel_rfl
/-- What a call that tells rows of its own tells. -/
def TeRs (B : Nat) (w' : World) (v : Value) (R : List (List Vt)) : Prop := ∃ css, OwnR 42 1 B w' v css ∧ css.length = R.length ∧ ∀ i (h1 : i < R.length) (h2 : i < css.length), eRow.E (fun b => B ≤ b ∧ some b ≠ v.ownBlock) w' R[i] css[i]
theorem TeRs.row {B : Nat} {w' : World} {v : Value} {R : List (List Vt)} (h : TeRs B w' v R) : RowIs eRow (fun b => B ≤ b) w' v R := by
  obtain ⟨css, ho, hl, hE⟩ := h
  obtain ⟨a, m, d, rfl⟩ := ho.sl
  exact OwnR.rowE (e := eRow) ho hl.symm (fun b hb _ => hb) fun i h1 h2 => eRow.mono (fun b hb _ => hb.1) (hE i h1 h2)
theorem OwnR.lenV {ty k B : Nat} {w : World} {a : Option Addr} {m d : Nat} {css : List (List Value)} (h : OwnR ty k B w (.slice a m d) css) : m = css.length := by
  rcases h.2 with ⟨_, ⟨h1, h2⟩ | ⟨g, cap, cur, h1, _⟩⟩
  · injection h1 with _ h3 _; omega
  · injection h1 with _ h3 _
theorem TeRs.base {B B' : Nat} {w : World} {v : Value} {R : List (List Vt)} (h : TeRs B w v R) (hB : B' ≤ B) : TeRs B' w v R := by
  obtain ⟨css, ho, hl, hE⟩ := h
  exact ⟨css, ⟨ho.1, owns_base ho.2 hB⟩, hl, fun i h1 h2 => eRow.mono (fun b hq _ => ⟨Nat.le_trans hB hq.1, hq.2⟩) (hE i h1 h2)⟩
end Go.Proofs.YtnlaaejdianfjaaGreat
namespace Go.Proofs.YtnlaaejdianfjaaGreat
open Go.RowKit
set_option linter.unusedVariables false
set_option linter.unusedSimpArgs false

end Go.Proofs.YtnlaaejdianfjaaGreat
