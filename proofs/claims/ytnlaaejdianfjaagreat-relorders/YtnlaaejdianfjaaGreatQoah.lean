import Derived.Test.YtnlaaejdianfjaaGreatQoag
import Derived.Test.YtnlaaejdianfjaaGreatQoab
import Derived.Test.YtnlaaejdianfjaaGreatQoaa
import Derived.ProofKit
import Derived.OpenShut
import Derived.ShutString
import Derived.ChangeOld
import Derived.Below
import Derived.Deep.Strs
import Derived.ChangeMaps5
import Derived.Test.YtnlaaejdianfjaaGreatQoac
import Derived.Deep.Trees
namespace Go.Proofs.YtnlaaejdianfjaaGreat
open Go.RowKit
set_option linter.unusedVariables false

/-- A table: its name, its columns. -/
abbrev Tab := ByteArray × List Co
def eTab : Ek Tab := ⟨3, fun Q w t cs => ∃ a n c a' n' c', cs = [.string t.1, .slice a n c, .slice a' n' c'] ∧ RowIs eCol Q w (.slice a n c) t.2,
  fun hk ⟨a, n, c, a', n', c', h1, h2⟩ => ⟨a, n, c, a', n', c', h1, h2.keep (by decide) hk⟩, fun hk ⟨a, n, c, a', n', c', h1, h2⟩ => ⟨a, n, c, a', n', c', h1, h2.mono (by decide) hk⟩⟩
def tabT : Tab := (⟨#[116]⟩, [(⟨#[107]⟩, 1, ⟨#[]⟩), (⟨#[118]⟩, 2, ⟨#[]⟩), (⟨#[110]⟩, 1, ⟨#[]⟩)])
def tabU : Tab := (⟨#[117]⟩, [(⟨#[107]⟩, 2, ⟨#[]⟩), (⟨#[114]⟩, 1, ⟨#[116]⟩), (⟨#[110]⟩, 1, ⟨#[]⟩)])
/-- A row of three columns that was just made. -/
theorem cols_new (w : World) (a1 b1 a2 b2 a3 b3 : ByteArray) (k1 k2 k3 : Int) {Q : Nat → Prop} {w' : World} (hb : Below (w.heap.size + 1) (w.alloc (.cells #[.string a1, .int .i64 k1, .string b1, .string a2, .int .i64 k2, .string b2, .string a3, .int .i64 k3, .string b3] 70)) w') (hq : Q w.heap.size) :
    RowIs eCol Q w' (.slice (some ⟨w.heap.size, 0, none⟩) 3 3) [(a1, k1, b1), (a2, k2, b2), (a3, k3, b3)] := by
  have hc : ∀ j, j < 9 → w'.cell? ⟨w.heap.size, j, none⟩ = (#[.string a1, .int .i64 k1, .string b1, .string a2, .int .i64 k2, .string b2, .string a3, .int .i64 k3, .string b3] : Array Value)[j]? := fun j hj =>
    (World.cell?_of_block (a := ⟨w.heap.size, j, none⟩) (hb.block _ (by simp))).trans (cell_new w _ _ _ j)
  refine ⟨_, 3, 3, rfl, rfl, Nat.le_refl _, by omega, fun _ => ⟨w.heap.size, 0, rfl, hq, fun i hi => ?_⟩⟩
  have hi' : i < 3 := hi
  match i, hi' with
  | 0, _ => exact ⟨[.string a1, .int .i64 k1, .string b1], rfl, rfl, fun j hj => by
      have hj' : j < 3 := hj
      match j, hj' with
      | 0, _ => exact hc 0 (by decide)
      | 1, _ => exact hc 1 (by decide)
      | 2, _ => exact hc 2 (by decide)⟩
  | 1, _ => exact ⟨[.string a2, .int .i64 k2, .string b2], rfl, rfl, fun j hj => by
      have hj' : j < 3 := hj
      match j, hj' with
      | 0, _ => exact hc 3 (by decide)
      | 1, _ => exact hc 4 (by decide)
      | 2, _ => exact hc 5 (by decide)⟩
  | 2, _ => exact ⟨[.string a3, .int .i64 k3, .string b3], rfl, rfl, fun j hj => by
      have hj' : j < 3 := hj
      match j, hj' with
      | 0, _ => exact hc 6 (by decide)
      | 1, _ => exact hc 7 (by decide)
      | 2, _ => exact hc 8 (by decide)⟩

set_option maxRecDepth 100000 in
set_option maxHeartbeats 2000000 in
theorem schema_any (w : World) : Calls Tryz.prog 18 #[] w fun e w' => ∃ b, e = .returned (.agg #[.slice (some ⟨b, 0, none⟩) 2 2, .slice none 0 0]) ∧ RowIs eTab (fun k => w.heap.size ≤ k) w' (.slice (some ⟨b, 0, none⟩) 2 2) [tabT, tabU] ∧ w.heap.size ≤ b ∧ Below w.heap.size w w' := by
  go_enter Tryz.func18, Tryz.ntmps18
  go_wp2
  refine bodyPost_ret (v := .agg #[.slice (some ⟨w.heap.size + 1 + 1 + 1 + 1, 0, none⟩) 2 2, .slice none 0 0]) (by simp [results, Tryz.results18, go_sem]) rfl ⟨w.heap.size + 1 + 1 + 1 + 1, rfl, ?_, by omega, bal (bal (bal (bal (bal (Below.refl _ _) _) _) _) _) _⟩
  have hT := cols_new (w.alloc (.cells #[.slice (some ⟨w.heap.size + 1 + 1 + 1 + 1, 0, none⟩) 2 2, .slice none 0 0] 54)) ⟨#[107]⟩ ⟨#[]⟩ ⟨#[118]⟩ ⟨#[]⟩ ⟨#[110]⟩ ⟨#[]⟩ 1 2 1 (Q := fun k => w.heap.size ≤ k) (by
    rw [show (w.alloc (.cells #[.slice (some ⟨w.heap.size + 1 + 1 + 1 + 1, 0, none⟩) 2 2, .slice none 0 0] 54)).heap.size + 1 = ((w.alloc (.cells #[.slice (some ⟨w.heap.size + 1 + 1 + 1 + 1, 0, none⟩) 2 2, .slice none 0 0] 54)).alloc (.cells #[.string ⟨#[107]⟩, .int .i64 1, .string ⟨#[]⟩, .string ⟨#[118]⟩, .int .i64 2, .string ⟨#[]⟩, .string ⟨#[110]⟩, .int .i64 1, .string ⟨#[]⟩] 70)).heap.size from by simp]
    exact bal (bal (bal (Below.refl _ _) (.cells #[.string ⟨#[110]⟩] 9)) (.cells #[.string ⟨#[107]⟩, .int .i64 2, .string ⟨#[]⟩, .string ⟨#[114]⟩, .int .i64 1, .string ⟨#[116]⟩, .string ⟨#[110]⟩, .int .i64 1, .string ⟨#[]⟩] 70)) (.cells #[.string ⟨#[116]⟩, .slice (some ⟨w.heap.size + 1, 0, none⟩) 3 3, .slice (some ⟨w.heap.size + 1 + 1, 0, none⟩) 1 1, .string ⟨#[117]⟩, .slice (some ⟨w.heap.size + 1 + 1 + 1, 0, none⟩) 3 3, .slice none 0 0] 33)) (by simp)
  have hU := cols_new (((w.alloc (.cells #[.slice (some ⟨w.heap.size + 1 + 1 + 1 + 1, 0, none⟩) 2 2, .slice none 0 0] 54)).alloc (.cells #[.string ⟨#[107]⟩, .int .i64 1, .string ⟨#[]⟩, .string ⟨#[118]⟩, .int .i64 2, .string ⟨#[]⟩, .string ⟨#[110]⟩, .int .i64 1, .string ⟨#[]⟩] 70)).alloc (.cells #[.string ⟨#[110]⟩] 9)) ⟨#[107]⟩ ⟨#[]⟩ ⟨#[114]⟩ ⟨#[116]⟩ ⟨#[110]⟩ ⟨#[]⟩ 2 1 1 (Q := fun k => w.heap.size ≤ k) (by
    rw [show (((w.alloc (.cells #[.slice (some ⟨w.heap.size + 1 + 1 + 1 + 1, 0, none⟩) 2 2, .slice none 0 0] 54)).alloc (.cells #[.string ⟨#[107]⟩, .int .i64 1, .string ⟨#[]⟩, .string ⟨#[118]⟩, .int .i64 2, .string ⟨#[]⟩, .string ⟨#[110]⟩, .int .i64 1, .string ⟨#[]⟩] 70)).alloc (.cells #[.string ⟨#[110]⟩] 9)).heap.size + 1 = ((((w.alloc (.cells #[.slice (some ⟨w.heap.size + 1 + 1 + 1 + 1, 0, none⟩) 2 2, .slice none 0 0] 54)).alloc (.cells #[.string ⟨#[107]⟩, .int .i64 1, .string ⟨#[]⟩, .string ⟨#[118]⟩, .int .i64 2, .string ⟨#[]⟩, .string ⟨#[110]⟩, .int .i64 1, .string ⟨#[]⟩] 70)).alloc (.cells #[.string ⟨#[110]⟩] 9)).alloc (.cells #[.string ⟨#[107]⟩, .int .i64 2, .string ⟨#[]⟩, .string ⟨#[114]⟩, .int .i64 1, .string ⟨#[116]⟩, .string ⟨#[110]⟩, .int .i64 1, .string ⟨#[]⟩] 70)).heap.size from by simp]
    exact bal (Below.refl _ _) (.cells #[.string ⟨#[116]⟩, .slice (some ⟨w.heap.size + 1, 0, none⟩) 3 3, .slice (some ⟨w.heap.size + 1 + 1, 0, none⟩) 1 1, .string ⟨#[117]⟩, .slice (some ⟨w.heap.size + 1 + 1 + 1, 0, none⟩) 3 3, .slice none 0 0] 33)) (by simp; omega)
  simp only [World.size_alloc] at hT hU
  have hc := cell_new ((((w.alloc (.cells #[.slice (some ⟨w.heap.size + 1 + 1 + 1 + 1, 0, none⟩) 2 2, .slice none 0 0] 54)).alloc (.cells #[.string ⟨#[107]⟩, .int .i64 1, .string ⟨#[]⟩, .string ⟨#[118]⟩, .int .i64 2, .string ⟨#[]⟩, .string ⟨#[110]⟩, .int .i64 1, .string ⟨#[]⟩] 70)).alloc (.cells #[.string ⟨#[110]⟩] 9)).alloc (.cells #[.string ⟨#[107]⟩, .int .i64 2, .string ⟨#[]⟩, .string ⟨#[114]⟩, .int .i64 1, .string ⟨#[116]⟩, .string ⟨#[110]⟩, .int .i64 1, .string ⟨#[]⟩] 70)) #[.string ⟨#[116]⟩, .slice (some ⟨w.heap.size + 1, 0, none⟩) 3 3, .slice (some ⟨w.heap.size + 1 + 1, 0, none⟩) 1 1, .string ⟨#[117]⟩, .slice (some ⟨w.heap.size + 1 + 1 + 1, 0, none⟩) 3 3, .slice none 0 0] 33 (0, 0)
  simp only [World.size_alloc] at hc
  refine ⟨_, 2, 2, rfl, rfl, Nat.le_refl _, by omega, fun _ => ⟨_, 0, rfl, by omega, fun i hi => ?_⟩⟩
  have hi' : i < 2 := hi
  match i, hi' with
  | 0, _ => exact ⟨[.string ⟨#[116]⟩, .slice (some ⟨w.heap.size + 1, 0, none⟩) 3 3, .slice (some ⟨w.heap.size + 1 + 1, 0, none⟩) 1 1], ⟨_, _, _, _, _, _, rfl, hT⟩, rfl, fun j hj => by
      have hj' : j < 3 := hj
      match j, hj' with
      | 0, _ => exact hc 0
      | 1, _ => exact hc 1
      | 2, _ => exact hc 2⟩
  | 1, _ => exact ⟨[.string ⟨#[117]⟩, .slice (some ⟨w.heap.size + 1 + 1 + 1, 0, none⟩) 3 3, .slice none 0 0], ⟨_, _, _, _, _, _, rfl, hU⟩, rfl, fun j hj => by
      have hj' : j < 3 := hj
      match j, hj' with
      | 0, _ => exact hc 3
      | 1, _ => exact hc 4
      | 2, _ => exact hc 5⟩

end Go.Proofs.YtnlaaejdianfjaaGreat
namespace Go.Proofs.YtnlaaejdianfjaaGreat
open Go.RowKit
set_option linter.unusedVariables false

end Go.Proofs.YtnlaaejdianfjaaGreat
namespace Go.Proofs.YtnlaaejdianfjaaGreat
open Go.RowKit
set_option linter.unusedVariables false

end Go.Proofs.YtnlaaejdianfjaaGreat
namespace Go.Proofs.YtnlaaejdianfjaaGreat
open Go.RowKit
set_option linter.unusedVariables false
set_option linter.unusedSimpArgs false

end Go.Proofs.YtnlaaejdianfjaaGreat
namespace Go.Proofs.YtnlaaejdianfjaaGreat
open Go.RowKit
set_option linter.unusedVariables false
set_option linter.unusedSimpArgs false

end Go.Proofs.YtnlaaejdianfjaaGreat
namespace Go.Proofs.YtnlaaejdianfjaaGreat
open Go.RowKit
set_option linter.unusedVariables false
set_option linter.unusedSimpArgs false

end Go.Proofs.YtnlaaejdianfjaaGreat
namespace Go.Proofs.YtnlaaejdianfjaaGreat
open Go.RowKit
set_option linter.unusedVariables false
set_option linter.unusedSimpArgs false

end Go.Proofs.YtnlaaejdianfjaaGreat
namespace Go.Proofs.YtnlaaejdianfjaaGreat
open Go.RowKit
set_option linter.unusedVariables false
set_option linter.unusedSimpArgs false

end Go.Proofs.YtnlaaejdianfjaaGreat
namespace Go.Proofs.YtnlaaejdianfjaaGreat
open Go.RowKit
set_option linter.unusedVariables false
set_option linter.unusedSimpArgs false

abbrev clC (c : Cl3) : List Value := [.string c.1, .string c.2.1, .int .i64 c.2.2]
end Go.Proofs.YtnlaaejdianfjaaGreat
namespace Go.Proofs.YtnlaaejdianfjaaGreat
open Go.RowKit
set_option linter.unusedVariables false
set_option linter.unusedSimpArgs false

/-- A statement as typed looks at it. -/
structure Sq where
  kind : Int
  table : ByteArray
  name : ByteArray
  values : List (Pg × Tg)
  items : List It
  join : ByteArray
  on : List (Pg × Tg)
  wh : List (Pg × Tg)
  order : List (Pg × Tg)
end Go.Proofs.YtnlaaejdianfjaaGreat
namespace Go.Proofs.YtnlaaejdianfjaaGreat
open Go.RowKit
set_option linter.unusedVariables false
set_option linter.unusedSimpArgs false

end Go.Proofs.YtnlaaejdianfjaaGreat
namespace Go.Proofs.YtnlaaejdianfjaaGreat
open Go.RowKit
set_option linter.unusedVariables false
set_option linter.unusedSimpArgs false

end Go.Proofs.YtnlaaejdianfjaaGreat
namespace Go.Proofs.YtnlaaejdianfjaaGreat
open Go.RowKit
set_option linter.unusedVariables false
set_option linter.unusedSimpArgs false

end Go.Proofs.YtnlaaejdianfjaaGreat
namespace Go.Proofs.YtnlaaejdianfjaaGreat
open Go.RowKit
set_option linter.unusedVariables false
set_option linter.unusedSimpArgs false

end Go.Proofs.YtnlaaejdianfjaaGreat
namespace Go.Proofs.YtnlaaejdianfjaaGreat
open Go.RowKit
set_option linter.unusedVariables false
set_option linter.unusedSimpArgs false

end Go.Proofs.YtnlaaejdianfjaaGreat
namespace Go.Proofs.YtnlaaejdianfjaaGreat
open Go.RowKit
set_option linter.unusedVariables false
set_option linter.unusedSimpArgs false

def pairP (C : List It) (K : List Int) : List Cl3 := (C.zip K).map fun x => (x.1.2.1, x.1.2.2, x.2)
abbrev tbT : Tbl := ⟨⟨#[116]⟩, [(⟨#[107]⟩, 1, ⟨#[]⟩), (⟨#[118]⟩, 2, ⟨#[]⟩), (⟨#[110]⟩, 1, ⟨#[]⟩)], [⟨#[110]⟩]⟩
abbrev tbU : Tbl := ⟨⟨#[117]⟩, [(⟨#[107]⟩, 2, ⟨#[]⟩), (⟨#[114]⟩, 1, ⟨#[116]⟩), (⟨#[110]⟩, 1, ⟨#[]⟩)], []⟩
abbrev tbs : List Tbl := [tbT, tbU]
end Go.Proofs.YtnlaaejdianfjaaGreat
namespace Go.Proofs.YtnlaaejdianfjaaGreat
open Go.RowKit
set_option linter.unusedVariables false
set_option linter.unusedSimpArgs false

end Go.Proofs.YtnlaaejdianfjaaGreat
namespace Go.Proofs.YtnlaaejdianfjaaGreat
open Go.RowKit
set_option linter.unusedVariables false
set_option linter.unusedSimpArgs false

end Go.Proofs.YtnlaaejdianfjaaGreat
namespace Go.Proofs.YtnlaaejdianfjaaGreat
open Go.RowKit
set_option linter.unusedVariables false
set_option linter.unusedSimpArgs false

end Go.Proofs.YtnlaaejdianfjaaGreat
namespace Go.Proofs.YtnlaaejdianfjaaGreat
open Go.RowKit
set_option linter.unusedVariables false
set_option linter.unusedSimpArgs false

end Go.Proofs.YtnlaaejdianfjaaGreat
namespace Go.Proofs.YtnlaaejdianfjaaGreat
open Go.RowKit
set_option linter.unusedVariables false
set_option linter.unusedSimpArgs false

abbrev nP : Pay := (0, 0, ⟨#[]⟩, ⟨#[]⟩, ⟨#[]⟩)
abbrev litP (k i : Int) : Pg := (1, k, i, ⟨#[]⟩, ⟨#[]⟩, ⟨#[]⟩)
abbrev xEq : Pg × Tg := ((8, nP), .node 0 0 (litP 1 1) .nil (.node 0 0 (litP 1 1) .nil .nil))
abbrev xNot : Pg × Tg := ((4, nP), .node 0 0 (litP 1 1) .nil .nil)
abbrev qSel : Sq := ⟨6, ⟨#[113]⟩, ⟨#[]⟩, [], [], ⟨#[]⟩, [], [], []⟩
abbrev sSel : Sv := ⟨6, ⟨#[113]⟩, ⟨#[]⟩, (none, 0, 0), (none, 0, 0), (none, 0, 0), (none, 0, 0), ⟨#[]⟩, (none, 0, 0), (none, 0, 0), (none, 0, 0), false, (none, 0, 0)⟩
end Go.Proofs.YtnlaaejdianfjaaGreat
namespace Go.Proofs.YtnlaaejdianfjaaGreat
open Go.RowKit
set_option linter.unusedVariables false
set_option linter.unusedSimpArgs false

/-- Two literals, one beside the other, and a way. -/
abbrev litV (v : Vt) : Pg := (1, v.1, v.2.1, v.2.2, ⟨#[]⟩, ⟨#[]⟩)
abbrev xTwo (op : Int) (a b : Vt) : Pg × Tg := ((op, nP), .node 0 0 (litV a) .nil (.node 0 0 (litV b) .nil .nil))
end Go.Proofs.YtnlaaejdianfjaaGreat
namespace Go.Proofs.YtnlaaejdianfjaaGreat
open Go.RowKit
set_option linter.unusedVariables false
set_option linter.unusedSimpArgs false

theorem Bk.setK {y : World} {q k : Nat} {arr : Array Value} {t : TypeId} (h : Bk y q (.cells arr t (0, 0))) (u : Value) : Bk (y.setCell ⟨q, k, none⟩ u) q (.cells (arr.setIfInBounds k u) t (0, 0)) := ⟨by simp [World.setCell, Array.getElem?_modify, h.row]⟩
end Go.Proofs.YtnlaaejdianfjaaGreat
namespace Go.Proofs.YtnlaaejdianfjaaGreat
open Go.ChangeShapes Go.WideShapes Go.ChangeAt Go.RowKit
set_option linter.unusedVariables false

theorem own : ownKnob Tryz.prog.godebug = none := by kernel_rfl
theorem laidOut : laidOutB Tryz.prog = true := by kernel_rfl

/-- A slice of whole numbers that came in: nil, or a row of cells with its spare room. -/
def IsRow (k : IntKind) (w : World) (a : Option Addr) (len cap : Nat) (zs : List Int) : Prop :=
  (a = none ∧ len = 0 ∧ cap = 0 ∧ zs = []) ∨
  ∃ x, a = some x ∧ len ≤ cap ∧ cap ≤ maxLen ∧ zs.length = cap ∧ (∀ i, i < zs.length → w.cell? (x.add i) = some (.int k (zs.getD i 0))) ∧ ∀ n ∈ zs, (Lit.int k n).wf = true

theorem Rd.of_row {k : IntKind} {w : World} {a : Option Addr} {len cap : Nat} {zs : List Int} (h : IsRow k w a len cap zs) : Rd k w a len cap (zs.take len) := by
  rcases h with ⟨rfl, rfl, rfl, rfl⟩ | ⟨x, rfl, hl, hm, hz, hc, hw⟩
  · exact Rd.nil k w
  · refine ⟨by simp; omega, hl, hm, fun e => by simp at e, fun hp => ?_⟩
    obtain ⟨b, off, spot⟩ := x
    have h0 := hc 0 (by omega)
    have hspot : spot = none := by simpa [Addr.add] using World.cell?_spot h0
    subst hspot
    refine ⟨b, off, rfl, fun i hi => ?_⟩
    have hi' := hc i (by omega)
    rw [show (⟨b, off, none⟩ : Addr).add i = ⟨b, off + i, none⟩ from by simp [Addr.add]] at hi'
    rw [hi', nth, List.getElem?_take_of_lt hi, List.getD]

/-- Its numbers fit their kind. -/
theorem row_wf {k : IntKind} {w : World} {a : Option Addr} {len cap : Nat} {zs : List Int} (h : IsRow k w a len cap zs) : ∀ n ∈ zs.take len, (Lit.int k n).wf = true := by
  rcases h with ⟨rfl, rfl, rfl, rfl⟩ | ⟨x, rfl, hl, hm, hz, hc, hw⟩
  · intro n hn; simp at hn
  · exact fun n hn => hw n (List.mem_of_mem_take hn)

theorem u8_of_row {w : World} {a : Option Addr} {len cap : Nat} {zs : List Int} (h : IsRow .u8 w a len cap zs) : ∀ x ∈ zs.take len, 0 ≤ x ∧ x ≤ 255 :=
  fun x hx => bounds_u8 (row_wf h x hx)

/-- A byte that came in. -/
theorem u8_is {a : Int} (h : (Lit.int .u8 a).wf = true) : ∃ x : UInt8, a = (x.toNat : Int) := by
  have := bounds_u8 h
  refine ⟨UInt8.ofNat a.toNat, ?_⟩
  rw [UInt8.toNat_ofNat']
  omega

end Go.Proofs.YtnlaaejdianfjaaGreat
namespace Go.Proofs.YtnlaaejdianfjaaGreat
open Go.ChangeShapes Go.WideShapes Go.ChangeAt Go.RowKit
set_option linter.unusedVariables false
set_option linter.unusedSimpArgs false

end Go.Proofs.YtnlaaejdianfjaaGreat
namespace Go.Proofs.YtnlaaejdianfjaaGreat
open Go.RowKit
set_option linter.unusedVariables false
set_option linter.unusedSimpArgs false

abbrev C0 : Cl2 := [((0, ⟨#[116]⟩, ⟨#[107]⟩), 1), ((0, ⟨#[116]⟩, ⟨#[118]⟩), 2), ((0, ⟨#[116]⟩, ⟨#[110]⟩), 1)]
abbrev S0 : List Cl3 := pairP (C0.map Prod.fst) (C0.map Prod.snd)
/-- An expression alone in another, twice in another. -/
abbrev inOne (op : Int) (x : Pg × Tg) : Pg × Tg := ((op, nP), .node 0 0 x.1 x.2 .nil)
abbrev inTwo (op : Int) (x : Pg × Tg) : Pg × Tg := ((op, nP), .node 0 0 x.1 x.2 (.node 0 0 x.1 x.2 .nil))
end Go.Proofs.YtnlaaejdianfjaaGreat
namespace Go.Proofs.YtnlaaejdianfjaaGreat
open Go.RowKit
set_option linter.unusedVariables false
set_option linter.unusedSimpArgs false

/-- The values of a row by numbers. -/
def RwOK (L : List Co) (V : List Vt) : Prop := V.length = L.length ∧ ∀ i (h1 : i < L.length) (h2 : i < V.length), V[i].1 = L[i].2.1 ∧ VaOK L[i].2.1 V[i].2.1 V[i].2.2
abbrev vC (v : Vt) : List Value := [.int .i64 v.1, .int .i64 v.2.1, .string v.2.2]
end Go.Proofs.YtnlaaejdianfjaaGreat
namespace Go.Proofs.YtnlaaejdianfjaaGreat
open Go.RowKit
set_option linter.unusedVariables false
set_option linter.unusedSimpArgs false

def nmT (i : Nat) : ByteArray := if i % 2 = 0 then ⟨#[116]⟩ else ⟨#[117]⟩
def nmN (i : Nat) : ByteArray := if i / 2 = 0 then ⟨#[97]⟩ else if i / 2 = 1 then ⟨#[98]⟩ else ⟨#[99]⟩
abbrev itK (i : Nat) : It := (0, nmT i, nmN i)
abbrev xCol (tb nm : ByteArray) : Pg × Tg := ((2, 0, 0, ⟨#[]⟩, tb, nm), .nil)
abbrev xCe (tb nm : ByteArray) (v : Vt) : Pg × Tg := ((8, nP), .node 0 0 (2, 0, 0, ⟨#[]⟩, tb, nm) .nil (.node 0 0 (litV v) .nil .nil))
end Go.Proofs.YtnlaaejdianfjaaGreat
namespace Go.Proofs.YtnlaaejdianfjaaGreat
open Go.RowKit
set_option linter.unusedVariables false
set_option linter.unusedSimpArgs false

/-- A row, by its head. -/
def eRow : Ek (List Vt) := ⟨1, fun Q w V cs => ∃ a n c, cs = [.slice a n c] ∧ RowIs eVal Q w (.slice a n c) V,
  fun hk ⟨a, n, c, h1, h2⟩ => ⟨a, n, c, h1, h2.keep (by decide) hk⟩, fun hk ⟨a, n, c, h1, h2⟩ => ⟨a, n, c, h1, h2.mono (by decide) hk⟩⟩
theorem row1 {Q : Nat → Prop} {w : World} {a : Option Addr} {n c : Nat} {l : List (List Vt)} (h : RowIs eRow Q w (.slice a n c) l) {k : Nat} (hk : k < l.length) : ∃ b o ra rn rc, a = some ⟨b, o, none⟩ ∧ Q b ∧ w.cell? ⟨b, o + k, none⟩ = some (.slice ra rn rc) ∧ RowIs eVal Q w (.slice ra rn rc) l[k] := by
  obtain ⟨_, _, _, e, h1, h2, h3, h4⟩ := h
  cases e
  obtain ⟨b, o, e, hq, hi⟩ := h4 (by omega)
  obtain ⟨cs, ⟨ra, rn, rc, rfl, hr⟩, hl, hc⟩ := hi k hk
  refine ⟨b, o, ra, rn, rc, e, hq, ?_, hr⟩
  have := hc 0 (show 0 < 1 by decide)
  simpa [eRow] using this
theorem wrapS {k n c : Nat} (h : k < n) (h2 : n ≤ c) (h3 : c ≤ 9223372036854775807) : IntKind.i64.wrap ((k : Int) + 1) = (k : Int) + 1 := by
  show (if (true && decide (((k : Int) + 1) % (2 ^ 64 : Int) ≥ (2 ^ (64 - 1) : Int))) = true then ((k : Int) + 1) % (2 ^ 64 : Int) - (2 ^ 64 : Int) else ((k : Int) + 1) % (2 ^ 64 : Int)) = _
  rw [if_neg (by simp; omega)]
  omega
end Go.Proofs.YtnlaaejdianfjaaGreat
namespace Go.Proofs.YtnlaaejdianfjaaGreat
open Go.RowKit
set_option linter.unusedVariables false

end Go.Proofs.YtnlaaejdianfjaaGreat
namespace Go.Proofs.YtnlaaejdianfjaaGreat
open Go.RowKit
set_option linter.unusedVariables false
set_option linter.unusedSimpArgs false

/-- Picks lie in block g; these numbers are left. -/
structure PkX (w : World) (g : Nat) (zs : List Nat) : Prop where
  on : ∃ a len cap n, Pq2 w g a len cap n ∧ n + zs.length = len ∧ len ≤ cap ∧ cap ≤ 9223372036854775807 ∧ (0 < zs.length → ∃ b o, a = some ⟨b, o, none⟩ ∧ b < g ∧ b < w.heap.size ∧ ∀ i (h : i < zs.length), zs[i] ≤ 255 ∧ w.cell? ⟨b, o + (n + i), none⟩ = some (.int .u8 (zs[i] : Int)))
theorem PkX.lt {w : World} {g : Nat} {zs : List Nat} (h : PkX w g zs) : g < w.heap.size := by
  obtain ⟨a, len, cap, n, hq, _⟩ := h.on
  exact hq.lt
theorem PkX.keep {w w' : World} {g : Nat} {zs : List Nat} (h : PkX w g zs) (hs : w.heap.size ≤ w'.heap.size) (hk : ∀ k, k ≤ g → w'.heap[k]? = w.heap[k]?) : PkX w' g zs := by
  obtain ⟨a, len, cap, n, hq, h1, h2, h3, h4⟩ := h.on
  refine ⟨a, len, cap, n, ⟨(hk g (Nat.le_refl _)).trans hq.row⟩, h1, h2, h3, fun hp => ?_⟩
  obtain ⟨b, o, ha, hb, hb2, hz⟩ := h4 hp
  exact ⟨b, o, ha, hb, by omega, fun i hi => ⟨(hz i hi).1, (World.cell?_of_block (a := ⟨b, _, none⟩) (hk b (by omega))).trans (hz i hi).2⟩⟩
theorem PkX.later {w w' : World} {g : Nat} {zs : List Nat} (h : PkX w g zs) (hb : Below w.heap.size w w') : PkX w' g zs := h.keep hb.size fun k hk => hb.block k (Nat.lt_of_le_of_lt hk h.lt)
theorem PkX.alloc {w : World} {g : Nat} {zs : List Nat} (h : PkX w g zs) (o : Obj) : PkX (w.alloc o) g zs := h.later ((Below.refl _ _).alloc (Nat.le_refl _) o)
theorem PkX.drewN {w : World} {g : Nat} {zs : List Nat} (h : PkX w g zs) (n : Nat) : PkX (w.drewN n) g zs := h.keep (Nat.le_refl _) fun _ _ => rfl
theorem PkX.other {w : World} {g : Nat} {zs : List Nat} (h : PkX w g zs) {b : Nat} (hb : g < b) (o : Nat) (v : Value) : PkX (w.setCell ⟨b, o, none⟩ v) g zs :=
  h.keep (by simp [World.setCell]) fun k hk => Below.heap_setCell _ _ _ _ (by show k ≠ b; omega)
theorem PkX.new3 {w : World} {g : Nat} {zs : List Nat} (h : PkX w g zs) {b : Nat} (hb : g < b) (x y z : Value) : PkX (((w.setCell ⟨b, 0, none⟩ x).setCell ⟨b, 1, none⟩ y).setCell ⟨b, 2, none⟩ z) g zs := ((h.other hb _ _).other hb _ _).other hb _ _
theorem PkX.grown {g : Nat} {zs : List Nat} {w3 w4 : World} {row : Option Nat} (h : PkX w3 g zs) (hg : w3.grownBy w4 row) (hrow : ∀ k, row = some k → g < k) : PkX w4 g zs :=
  h.keep hg.size fun k hk => hg.block k (Nat.lt_of_le_of_lt hk h.lt) fun e => by have := hrow k e.symm; omega
/-- What Num picks, below m. -/
def hdM (zs : List Nat) (m : Nat) : Nat := zs.headD 0 % m
theorem hdM_lt (zs : List Nat) {m : Nat} (h : 0 < m) : hdM zs m < m := Nat.mod_lt _ h
set_option maxRecDepth 100000 in
set_option maxHeartbeats 1000000 in
theorem numX_any {g : Nat} {zs : List Nat} {w : World} (h : PkX w g zs) (m : Nat) (hm : 0 < m) (hm2 : m ≤ 100) :
    Calls Tryz.prog 46 #[.pointer (some ⟨g, 0, none⟩), .int .i64 (m : Int)] w fun e w' => e = .returned (.int .i64 ((hdM zs m : Nat) : Int)) ∧ PkX w' g zs.tail ∧ But g w w' := by
  obtain ⟨a, len, cap, n, hq, h1, h2, h3, h4⟩ := h.on
  obtain ⟨c0, c1⟩ := hq.cells
  have f1 := hq.free
  have hgl := hq.lt
  cases zs with
  | nil =>
    obtain rfl : n = len := by simpa using h1
    have g1 : decide ((n : Int) ≤ (n : Int)) = true := by simp
    have HP : Hid _ := hid h
    clear h h4 h1 hq
    go_enter Tryz.func46, Tryz.ntmps46
    go_wp2
    go_quiet (fail)
    have HQ : Hid _ := hid (HP.out.drewN nq)
    have HB : Hid _ := hid ((But.refl g w).rdrew nq)
    clear HP
    generalize w.drewN nq = W at *
    go_wp2
    go_ret
    exact ⟨by show _ = Ending.returned (.int .i64 (((0 % m : Nat)) : Int)); rw [Nat.zero_mod]; rfl, HQ.out, HB.out⟩
  | cons z0n zs =>
    rw [List.length_cons] at h1
    have hlt : n < len := by omega
    have g1 : decide ((len : Int) ≤ (n : Int)) = false := by simp; omega
    obtain ⟨b, o, rfl, hbg, hbl, hz⟩ := h4 (by simp)
    have hz0 := hz 0 (by simp)
    simp only [List.getElem_cons_zero, Nat.add_zero] at hz0
    obtain ⟨z1n, hc⟩ := hz0
    obtain ⟨z, hzz⟩ : ∃ z : Int, (z0n : Int) = z := ⟨_, rfl⟩
    rw [hzz] at hc
    have z0 : 0 ≤ z := by omega
    have z1 : z ≤ 255 := by omega
    have HP : Hid (PkX (w.setCell ⟨g, 1, none⟩ (.int .i64 ((n + 1 : Nat) : Int))) g zs) := hid ⟨_, len, cap, n + 1, hq.set _, by omega, h2, h3, fun _ => ⟨b, o, rfl, hbg, by simpa [World.setCell] using hbl, fun i hi => by
      have hh := hz (i + 1) (by simpa using hi)
      simp only [List.getElem_cons_succ] at hh
      refine ⟨hh.1, ?_⟩
      rw [show o + (n + 1 + i) = o + (n + (i + 1)) from by omega]
      exact (World.cell?_of_block (a := ⟨b, _, none⟩) (Below.heap_setCell _ _ _ _ (by show b ≠ g; omega))).trans hh.2⟩⟩
    have hP2 := hq.set (n + 1)
    obtain ⟨d0, d1⟩ := hP2.cells
    have hc2 : (w.setCell ⟨g, 1, none⟩ (.int .i64 ((n + 1 : Nat) : Int))).cell? ⟨b, o + n, none⟩ = some (.int .u8 z) := (World.cell?_of_block (a := ⟨b, _, none⟩) (Below.heap_setCell _ _ _ _ (by show b ≠ g; omega))).trans hc
    have hbe : ((n + 1 : Nat) : Int) = (n : Int) + 1 := by omega
    have hB : But g w (w.setCell ⟨g, 1, none⟩ (.int .i64 ((n + 1 : Nat) : Int))) := But.set _ _ _ _
    rw [hbe] at d0 d1 hc2 HP hB
    have HZ : Hid _ := hid hzz
    clear h h4 hq hP2 hz hbe hzz
    go_enter Tryz.func46, Tryz.ntmps46
    go_wp2
    go_quiet (fail)
    obtain ⟨V, hV⟩ : ∃ V, w.drewN nq = V := ⟨_, rfl⟩
    have e0 : V.cell? ⟨g, 0, none⟩ = some (.slice (some ⟨b, o, none⟩) len cap) := by rw [← hV]; exact c0
    have e1 : V.cell? ⟨g, 1, none⟩ = some (.int .i64 n) := by rw [← hV]; exact c1
    have e2 : V.frozen? ⟨g, 1, none⟩ = false := by rw [← hV]; exact f1
    have e3 : V.heap.size = w.heap.size := by rw [← hV]; rfl
    have e4 : (V.setCell ⟨g, 1, none⟩ (.int .i64 ((n : Int) + 1))).cell? ⟨b, o + n, none⟩ = some (.int .u8 z) := by rw [← hV]; exact hc2
    have e5 : (V.setCell ⟨g, 1, none⟩ (.int .i64 ((n : Int) + 1))).cell? ⟨g, 0, none⟩ = some (.slice (some ⟨b, o, none⟩) len cap) := by rw [← hV]; exact d0
    have e6 : (V.setCell ⟨g, 1, none⟩ (.int .i64 ((n : Int) + 1))).cell? ⟨g, 1, none⟩ = some (.int .i64 ((n : Int) + 1)) := by rw [← hV]; exact d1
    have HQ : Hid (PkX (V.setCell ⟨g, 1, none⟩ (.int .i64 ((n : Int) + 1))) g zs) := hid (by rw [← hV]; exact HP.out.keep (Nat.le_refl _) fun _ _ => rfl)
    have HC : Hid (But g w (V.setCell ⟨g, 1, none⟩ (.int .i64 ((n : Int) + 1)))) := hid (by rw [← hV]; exact ⟨hB.os, hB.tape, hB.output, hB.size, hB.block⟩)
    clear c0 c1 f1 d0 d1 hc hc2 HP hB
    rw [hV]
    clear hV
    go_wp2
    obtain ⟨U, hU⟩ : ∃ U, V.setCell ⟨g, 1, none⟩ (.int .i64 ((n : Int) + 1)) = U := ⟨_, rfl⟩
    rw [hU] at e4 e5 e6 HQ HC ⊢
    clear hU e0 e1 e2 e3
    go_quiet (fail)
    have HQ2 : Hid _ := hid (HQ.out.drewN nq)
    have HC2 : Hid _ := hid (HC.out.rdrew nq)
    generalize U.drewN nq = T at *
    go_wp2
    go_ret
    have hmi : (0 : Int) < (m : Int) := by omega
    have hz0 : 0 ≤ z % (m : Int) := Int.emod_nonneg _ (by omega)
    have hz1 : z % (m : Int) < (m : Int) := Int.emod_lt_of_pos _ hmi
    refine ⟨?_, HQ2.out, HC2.out⟩
    show Ending.returned (.int .i64 (z % (m : Int))) = Ending.returned (.int .i64 (((z0n % m : Nat)) : Int))
    rw [← HZ.out, Int.natCast_emod]

set_option maxRecDepth 100000 in
set_option maxHeartbeats 1000000 in
theorem overX_any {g : Nat} {zs : List Nat} {w : World} (h : PkX w g zs) :
    Calls Tryz.prog 30 #[.pointer (some ⟨g, 0, none⟩)] w fun e w' => e = .returned (.bool (decide (zs = []))) ∧ PkX w' g zs ∧ But g w w' := by
  obtain ⟨a, len, cap, n, hq, h1, h2, h3, h4⟩ := h.on
  obtain ⟨c0, c1⟩ := hq.cells
  have hgl := hq.lt
  have HP : Hid _ := hid h
  have HD : Hid (decide (zs = []) = decide (len ≤ n)) := hid (by cases zs <;> simp at h1 ⊢ <;> omega)
  clear h h4 hq
  generalize decide (zs = []) = D at *
  go_enter Tryz.func30, Tryz.ntmps30
  go_wp2
  go_quiet (fail)
  have HQ : Hid _ := hid (HP.out.drewN nq)
  have HB : Hid _ := hid ((But.refl g w).rdrew nq)
  clear HP
  generalize w.drewN nq = W at *
  go_wp2
  go_ret
  exact ⟨by rw [HD.out]; rfl, HQ.out, HB.out⟩
/-- The value of a kind that Value picks. -/
def vaX (kind : Int) (zs : List Nat) : Vt := if kind = 2 then (2, 0, ([⟨#[97]⟩, ⟨#[98]⟩, ⟨#[]⟩, ⟨#[105, 116, 39, 115]⟩, ⟨#[122, 122]⟩][hdM zs 5]?).getD ⟨#[]⟩) else (1, (if hdM zs 12 = 11 then 9223372036854775807 else (hdM zs 12 : Int)), ⟨#[]⟩)
set_option maxRecDepth 100000 in
set_option maxHeartbeats 1000000 in
theorem valueX_any {g : Nat} {zs : List Nat} {w : World} (h : PkX w g zs) (kind : Int) (hk : kind = 1 ∨ kind = 2) :
    Calls Tryz.prog 50 #[.pointer (some ⟨g, 0, none⟩), .int .i64 kind] w fun e w' => e = .returned (vV (vaX kind zs)) ∧ PkX w' g zs.tail ∧ But g w w' := by
  have hgl := h.lt
  have hv : Bv (w.alloc (.cells #[.int .i64 0, .int .i64 0, .string ⟨#[]⟩] 44)) w.heap.size 0 0 ⟨#[]⟩ := ⟨heap_alloc_new w _⟩
  rcases hk with rfl | rfl
  · have HN : Hid _ := hid (numX_any (h.alloc (.cells #[.int .i64 0, .int .i64 0, .string ⟨#[]⟩] 44)) 12 (by decide) (by decide))
    clear h
    go_enter Tryz.func50, Tryz.ntmps50
    go_wp2_with fail
    refine Calls.mono HN.out ?_
    rintro e w1 ⟨rfl, hp, hb⟩
    have hk := hdM_lt zs (m := 12) (by decide)
    obtain ⟨k, hkz⟩ : ∃ k, hdM zs 12 = k := ⟨_, rfl⟩
    rw [hkz] at hk
    have HKZ : Hid _ := hid hkz
    rw [hkz]
    clear hkz
    have hB : But g w w1 := ((But.refl g w).alloc _).trans hb
    have hv1 := hv.but hb (by omega)
    obtain ⟨c0, c1, c2⟩ := hv1.cells
    obtain ⟨f0, f1, f2⟩ := hv1.free
    have hbl := hv1.lt
    by_cases h11 : k = 11
    · subst h11
      have HE : Hid _ := hid (hp.new3 (b := w.heap.size) hgl (.int .i64 1) (.int .i64 9223372036854775807) (.string ⟨#[]⟩))
      have HB : Hid _ := hid (hB.new3 (b := w.heap.size) (Nat.le_refl _) (.int .i64 1) (.int .i64 9223372036854775807) (.string ⟨#[]⟩))
      clear hv hv1 hp hB hb HN
      go_wp2
      exact bodyPost_ret (v := .agg #[.int .i64 1, .int .i64 9223372036854775807, .string ⟨#[]⟩]) (by simp [results, Tryz.results50, go_sem, c0, c1, c2]) rfl ⟨by unfold vaX; rw [if_neg (by decide), HKZ.out]; rfl, HE.out, HB.out⟩
    · have g1 : ((k : Int) == 11) = false := by simp; omega
      have HE : Hid _ := hid (hp.new3 (b := w.heap.size) hgl (.int .i64 1) (.int .i64 k) (.string ⟨#[]⟩))
      have HB : Hid _ := hid (hB.new3 (b := w.heap.size) (Nat.le_refl _) (.int .i64 1) (.int .i64 k) (.string ⟨#[]⟩))
      clear hv hv1 hp hB hb HN
      go_wp2
      exact bodyPost_ret (v := .agg #[.int .i64 1, .int .i64 k, .string ⟨#[]⟩]) (by simp [results, Tryz.results50, go_sem, c0, c1, c2]) rfl ⟨by unfold vaX; rw [if_neg (by decide), HKZ.out, if_neg h11], HE.out, HB.out⟩
  · have HN : Hid _ := hid (numX_any ((h.alloc (.cells #[.int .i64 0, .int .i64 0, .string ⟨#[]⟩] 44)).alloc (.cells #[.string ⟨#[97]⟩, .string ⟨#[98]⟩, .string ⟨#[]⟩, .string ⟨#[105, 116, 39, 115]⟩, .string ⟨#[122, 122]⟩] 9)) 5 (by decide) (by decide))
    clear h
    go_enter Tryz.func50, Tryz.ntmps50
    go_wp2_with fail
    refine Calls.mono HN.out ?_
    rintro e w1 ⟨rfl, hp, hb⟩
    have hk := hdM_lt zs (m := 5) (by decide)
    obtain ⟨k, hkz⟩ : ∃ k, hdM zs 5 = k := ⟨_, rfl⟩
    rw [hkz] at hk
    have HKZ : Hid _ := hid hkz
    rw [hkz]
    clear hkz
    have hB : But g w w1 := (((But.refl g w).alloc _).alloc _).trans hb
    have hc := strs_new _ hb (by simp; omega)
    have c4 := hc 4 (by decide)
    have c3 := hc 3 (by decide)
    have d0 := hc 0 (by decide)
    have d1 := hc 1 (by decide)
    have d2 := hc 2 (by decide)
    simp only [List.getElem_toArray, List.getElem_cons_zero, List.getElem_cons_succ, World.size_alloc] at d0 d1 d2 c3 c4
    have hv1 := (Bv.mk ((Below.heap_alloc _ _ _ hv.lt).trans hv.row) : Bv ((w.alloc (.cells #[.int .i64 0, .int .i64 0, .string ⟨#[]⟩] 44)).alloc (.cells #[.string ⟨#[97]⟩, .string ⟨#[98]⟩, .string ⟨#[]⟩, .string ⟨#[105, 116, 39, 115]⟩, .string ⟨#[122, 122]⟩] 9)) w.heap.size 0 0 ⟨#[]⟩).but hb (by omega)
    obtain ⟨c0, c1, c2⟩ := hv1.cells
    obtain ⟨f0, f1, f2⟩ := hv1.free
    have hbl : w.heap.size + 1 < w1.heap.size := by have := hb.size; simp at this; omega
    have HE : Hid (∀ s, _) := hid fun s => hp.new3 (b := w.heap.size) hgl (.int .i64 2) (.int .i64 0) (.string s)
    have HB : Hid (∀ s, _) := hid fun s => hB.new3 (b := w.heap.size) (Nat.le_refl _) (.int .i64 2) (.int .i64 0) (.string s)
    clear hv hv1 hp hB hb HN hc
    rcases (show k = 0 ∨ k = 1 ∨ k = 2 ∨ k = 3 ∨ k = 4 by omega) with rfl | rfl | rfl | rfl | rfl
    · go_wp2
      exact bodyPost_ret (v := .agg #[.int .i64 2, .int .i64 0, .string ⟨#[97]⟩]) (by simp [results, Tryz.results50, go_sem, c0, c1, c2]) rfl ⟨by unfold vaX; rw [if_pos rfl, HKZ.out]; rfl, HE.out _, HB.out _⟩
    · go_wp2
      exact bodyPost_ret (v := .agg #[.int .i64 2, .int .i64 0, .string ⟨#[98]⟩]) (by simp [results, Tryz.results50, go_sem, c0, c1, c2]) rfl ⟨by unfold vaX; rw [if_pos rfl, HKZ.out]; rfl, HE.out _, HB.out _⟩
    · go_wp2
      exact bodyPost_ret (v := .agg #[.int .i64 2, .int .i64 0, .string ⟨#[]⟩]) (by simp [results, Tryz.results50, go_sem, c0, c1, c2]) rfl ⟨by unfold vaX; rw [if_pos rfl, HKZ.out]; rfl, HE.out _, HB.out _⟩
    · go_wp2
      exact bodyPost_ret (v := .agg #[.int .i64 2, .int .i64 0, .string ⟨#[105, 116, 39, 115]⟩]) (by simp [results, Tryz.results50, go_sem, c0, c1, c2]) rfl ⟨by unfold vaX; rw [if_pos rfl, HKZ.out]; rfl, HE.out _, HB.out _⟩
    · go_wp2
      exact bodyPost_ret (v := .agg #[.int .i64 2, .int .i64 0, .string ⟨#[122, 122]⟩]) (by simp [results, Tryz.results50, go_sem, c0, c1, c2]) rfl ⟨by unfold vaX; rw [if_pos rfl, HKZ.out]; rfl, HE.out _, HB.out _⟩


end Go.Proofs.YtnlaaejdianfjaaGreat
