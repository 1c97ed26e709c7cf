import Derived.Test.YtnlaaejdianfjaaGreatQfag
import Derived.Test.YtnlaaejdianfjaaGreatQfab
import Derived.Test.YtnlaaejdianfjaaGreatQfaa
import Derived.ProofKit
import Derived.OpenShut
import Derived.ShutString
import Derived.ChangeOld
import Derived.Below
import Derived.Deep.Strs
import Derived.ChangeMaps5
import Derived.Test.YtnlaaejdianfjaaGreatQfac
import Derived.Deep.Trees
import Derived.Test.YtnlaaejdianfjaaGreatQfaf
import Derived.Shelf.Abstract
import Derived.OwnWalkIn
import Derived.TacticsInMore
import Derived.LoopNIn
import Derived.LoopIn
namespace Go.Proofs.YtnlaaejdianfjaaGreat
open Go.RowKit
set_option linter.unusedVariables false

/-- A table: its name, its columns. -/
abbrev Tab := ByteArray × List Co
/-- A row of three columns that was just made. -/
theorem cols_new (w : World) (a1 b1 a2 b2 a3 b3 : ByteArray) (k1 k2 k3 : Int) {Q : Nat → Prop} {w' : World} (hb : Below (w.heap.size + 1) (w.alloc (.cells #[.string a1, .int .i64 k1, .string b1, .string a2, .int .i64 k2, .string b2, .string a3, .int .i64 k3, .string b3] 70)) w') (hq : Q w.heap.size) :
    RowIs eCol Q w' (.slice (some ⟨w.heap.size, 0, none⟩) 3 3) [(a1, k1, b1), (a2, k2, b2), (a3, k3, b3)] := by
  have hc : ∀ j, j < 9 → w'.cell? ⟨w.heap.size, j, none⟩ = (#[.string a1, .int .i64 k1, .string b1, .string a2, .int .i64 k2, .string b2, .string a3, .int .i64 k3, .string b3] : Array Value)[j]? := fun j hj =>
    (World.cell?_of_block (a := ⟨w.heap.size, j, none⟩) (hb.block _ (by simp))).trans (cell_new w _ _ _ j)
  refine ⟨_, 3, 3, rfl, rfl, Nat.le_refl _, by omega, fun _ => ⟨w.heap.size, 0, rfl, hq, fun i hi => ?_⟩⟩
  have hi' : i < 3 := hi
  match i, hi' with
  | 0, _ => exact ⟨[.string a1, .int .i64 k1, .string b1], rfl, rfl, fun j hj => by
      have hj' : j < 3 := hj
      match j, hj' with
      | 0, _ => exact hc 0 (by decide)
      | 1, _ => exact hc 1 (by decide)
      | 2, _ => exact hc 2 (by decide)⟩
  | 1, _ => exact ⟨[.string a2, .int .i64 k2, .string b2], rfl, rfl, fun j hj => by
      have hj' : j < 3 := hj
      match j, hj' with
      | 0, _ => exact hc 3 (by decide)
      | 1, _ => exact hc 4 (by decide)
      | 2, _ => exact hc 5 (by decide)⟩
  | 2, _ => exact ⟨[.string a3, .int .i64 k3, .string b3], rfl, rfl, fun j hj => by
      have hj' : j < 3 := hj
      match j, hj' with
      | 0, _ => exact hc 6 (by decide)
      | 1, _ => exact hc 7 (by decide)
      | 2, _ => exact hc 8 (by decide)⟩

end Go.Proofs.YtnlaaejdianfjaaGreat
namespace Go.Proofs.YtnlaaejdianfjaaGreat
open Go.RowKit
set_option linter.unusedVariables false

end Go.Proofs.YtnlaaejdianfjaaGreat
namespace Go.Proofs.YtnlaaejdianfjaaGreat
open Go.RowKit
set_option linter.unusedVariables false

theorem OwnR.set {ty k B : Nat} {w : World} {v : Value} {css : List (List Value)} (h : OwnR ty k B w v css) {b : Nat} (hb : b < B) (o : Nat) (x : Value) : OwnR ty k B (w.setCell ⟨b, o, none⟩ x) v css := by
  refine ⟨h.1, h.2.1, ?_⟩
  rcases h.2.2 with k | ⟨b', cap, cur, hv, hg', hh, r⟩
  · exact .inl k
  · exact .inr ⟨b', cap, cur, hv, hg', by rw [Below.heap_setCell _ _ _ _ (by show b' ≠ b; omega)]; exact hh, r⟩
end Go.Proofs.YtnlaaejdianfjaaGreat
namespace Go.Proofs.YtnlaaejdianfjaaGreat
open Go.RowKit
set_option linter.unusedVariables false
set_option linter.unusedSimpArgs false

end Go.Proofs.YtnlaaejdianfjaaGreat
namespace Go.Proofs.YtnlaaejdianfjaaGreat
open Go.RowKit
set_option linter.unusedVariables false
set_option linter.unusedSimpArgs false

end Go.Proofs.YtnlaaejdianfjaaGreat
namespace Go.Proofs.YtnlaaejdianfjaaGreat
open Go.RowKit
set_option linter.unusedVariables false
set_option linter.unusedSimpArgs false

end Go.Proofs.YtnlaaejdianfjaaGreat
namespace Go.Proofs.YtnlaaejdianfjaaGreat
open Go.RowKit
set_option linter.unusedVariables false
set_option linter.unusedSimpArgs false

end Go.Proofs.YtnlaaejdianfjaaGreat
namespace Go.Proofs.YtnlaaejdianfjaaGreat
open Go.RowKit
set_option linter.unusedVariables false
set_option linter.unusedSimpArgs false

end Go.Proofs.YtnlaaejdianfjaaGreat
namespace Go.Proofs.YtnlaaejdianfjaaGreat
open Go.RowKit
set_option linter.unusedVariables false
set_option linter.unusedSimpArgs false

abbrev clC (c : Cl3) : List Value := [.string c.1, .string c.2.1, .int .i64 c.2.2]
end Go.Proofs.YtnlaaejdianfjaaGreat
namespace Go.Proofs.YtnlaaejdianfjaaGreat
open Go.RowKit
set_option linter.unusedVariables false
set_option linter.unusedSimpArgs false

/-- A statement as typed looks at it. -/
structure Sq where
  kind : Int
  table : ByteArray
  name : ByteArray
  values : List (Pg × Tg)
  items : List It
  join : ByteArray
  on : List (Pg × Tg)
  wh : List (Pg × Tg)
  order : List (Pg × Tg)
/-- Tables in memory, no views, none too long, each with a column. -/
structure IsT (w : World) (T : List Tbl) (ta : Option Addr) (tn tc : Nat) : Prop where
  row : RowIs eTbl (fun _ => True) w (.slice ta tn tc) T
  bd : AllB TblB T
  ne : ∀ t ∈ T, t.cols ≠ []
end Go.Proofs.YtnlaaejdianfjaaGreat
namespace Go.Proofs.YtnlaaejdianfjaaGreat
open Go.RowKit
set_option linter.unusedVariables false
set_option linter.unusedSimpArgs false

theorem row1_str (b : Nat) {w : World} {x : ByteArray} (h : w.cell? ⟨b, 0, none⟩ = some (.string x)) : RowIs eStr (fun _ => True) w (.slice (some ⟨b, 0, none⟩) 1 1) [x] :=
  ⟨_, 1, 1, rfl, rfl, Nat.le_refl _, by omega, fun _ => ⟨b, 0, rfl, trivial, fun i hi => by
    have hi' : i < 1 := hi
    match i, hi' with
    | 0, _ =>
      refine ⟨_, rfl, rfl, fun j hj => ?_⟩
      have hj' : j < 1 := hj
      match j, hj' with
      | 0, _ => exact h⟩⟩
end Go.Proofs.YtnlaaejdianfjaaGreat
namespace Go.Proofs.YtnlaaejdianfjaaGreat
open Go.RowKit
set_option linter.unusedVariables false
set_option linter.unusedSimpArgs false

end Go.Proofs.YtnlaaejdianfjaaGreat
namespace Go.Proofs.YtnlaaejdianfjaaGreat
open Go.RowKit
set_option linter.unusedVariables false
set_option linter.unusedSimpArgs false

end Go.Proofs.YtnlaaejdianfjaaGreat
namespace Go.Proofs.YtnlaaejdianfjaaGreat
open Go.RowKit
set_option linter.unusedVariables false
set_option linter.unusedSimpArgs false

end Go.Proofs.YtnlaaejdianfjaaGreat
namespace Go.Proofs.YtnlaaejdianfjaaGreat
open Go.RowKit
set_option linter.unusedVariables false
set_option linter.unusedSimpArgs false

end Go.Proofs.YtnlaaejdianfjaaGreat
namespace Go.Proofs.YtnlaaejdianfjaaGreat
open Go.RowKit
set_option linter.unusedVariables false
set_option linter.unusedSimpArgs false

def pairP (C : List It) (K : List Int) : List Cl3 := (C.zip K).map fun x => (x.1.2.1, x.1.2.2, x.2)
abbrev tbT : Tbl := ⟨⟨#[116]⟩, [(⟨#[107]⟩, 1, ⟨#[]⟩), (⟨#[118]⟩, 2, ⟨#[]⟩), (⟨#[110]⟩, 1, ⟨#[]⟩)], [⟨#[110]⟩]⟩
abbrev tbU : Tbl := ⟨⟨#[117]⟩, [(⟨#[107]⟩, 2, ⟨#[]⟩), (⟨#[114]⟩, 1, ⟨#[116]⟩), (⟨#[110]⟩, 1, ⟨#[]⟩)], []⟩
abbrev tbs : List Tbl := [tbT, tbU]
theorem tbs_B : AllB TblB tbs := by
  refine ⟨by simp, fun x hx => ?_⟩
  simp only [List.mem_cons, List.not_mem_nil, or_false] at hx
  rcases hx with rfl | rfl
  · refine ⟨by simp only [StrB]; decide, ⟨by simp, fun c hc => ?_⟩, ⟨by simp, fun c hc => ?_⟩⟩
    · simp only [List.mem_cons, List.not_mem_nil, or_false] at hc
      rcases hc with rfl | rfl | rfl <;> exact ⟨by decide, by decide⟩
    · simp only [List.mem_cons, List.not_mem_nil, or_false] at hc
      subst hc
      simp only [StrB]; decide
  · refine ⟨by simp only [StrB]; decide, ⟨by simp, fun c hc => ?_⟩, ⟨by simp, fun c hc => ?_⟩⟩
    · simp only [List.mem_cons, List.not_mem_nil, or_false] at hc
      rcases hc with rfl | rfl | rfl <;> exact ⟨by decide, by decide⟩
    · simp at hc
theorem tbs_ne : ∀ t ∈ tbs, t.cols ≠ [] := by
  intro t ht
  simp only [List.mem_cons, List.not_mem_nil, or_false] at ht
  rcases ht with rfl | rfl <;> simp
set_option maxRecDepth 100000 in
set_option maxHeartbeats 2000000 in
theorem schemaT_any (w : World) : Calls Tryz.prog 18 #[] w fun e w' => ∃ b, e = .returned (.agg #[.slice (some ⟨b, 0, none⟩) 2 2, .slice none 0 0]) ∧ IsT w' tbs (some ⟨b, 0, none⟩) 2 2 ∧ w.heap.size ≤ b ∧ Below w.heap.size w w' := by
  go_enter Tryz.func18, Tryz.ntmps18
  go_wp2
  refine bodyPost_ret (v := .agg #[.slice (some ⟨w.heap.size + 1 + 1 + 1 + 1, 0, none⟩) 2 2, .slice none 0 0]) (by simp [results, Tryz.results18, go_sem]) rfl ⟨w.heap.size + 1 + 1 + 1 + 1, rfl, ⟨?_, tbs_B, tbs_ne⟩, by omega, bal (bal (bal (bal (bal (Below.refl _ _) _) _) _) _) _⟩
  have hT := cols_new (w.alloc (.cells #[.slice (some ⟨w.heap.size + 1 + 1 + 1 + 1, 0, none⟩) 2 2, .slice none 0 0] 54)) ⟨#[107]⟩ ⟨#[]⟩ ⟨#[118]⟩ ⟨#[]⟩ ⟨#[110]⟩ ⟨#[]⟩ 1 2 1 (Q := fun _ => True) (w' := (((((w.alloc (.cells #[.slice (some ⟨w.heap.size + 1 + 1 + 1 + 1, 0, none⟩) 2 2, .slice none 0 0] 54)).alloc (.cells #[.string ⟨#[107]⟩, .int .i64 1, .string ⟨#[]⟩, .string ⟨#[118]⟩, .int .i64 2, .string ⟨#[]⟩, .string ⟨#[110]⟩, .int .i64 1, .string ⟨#[]⟩] 70)).alloc (.cells #[.string ⟨#[110]⟩] 9)).alloc (.cells #[.string ⟨#[107]⟩, .int .i64 2, .string ⟨#[]⟩, .string ⟨#[114]⟩, .int .i64 1, .string ⟨#[116]⟩, .string ⟨#[110]⟩, .int .i64 1, .string ⟨#[]⟩] 70)).alloc (.cells #[.string ⟨#[116]⟩, .slice (some ⟨w.heap.size + 1, 0, none⟩) 3 3, .slice (some ⟨w.heap.size + 1 + 1, 0, none⟩) 1 1, .string ⟨#[117]⟩, .slice (some ⟨w.heap.size + 1 + 1 + 1, 0, none⟩) 3 3, .slice none 0 0] 33))) (by
    rw [show (w.alloc (.cells #[.slice (some ⟨w.heap.size + 1 + 1 + 1 + 1, 0, none⟩) 2 2, .slice none 0 0] 54)).heap.size + 1 = ((w.alloc (.cells #[.slice (some ⟨w.heap.size + 1 + 1 + 1 + 1, 0, none⟩) 2 2, .slice none 0 0] 54)).alloc (.cells #[.string ⟨#[107]⟩, .int .i64 1, .string ⟨#[]⟩, .string ⟨#[118]⟩, .int .i64 2, .string ⟨#[]⟩, .string ⟨#[110]⟩, .int .i64 1, .string ⟨#[]⟩] 70)).heap.size from by simp]
    exact bal (bal (bal (Below.refl _ _) _) _) _) trivial
  have hU := cols_new (((w.alloc (.cells #[.slice (some ⟨w.heap.size + 1 + 1 + 1 + 1, 0, none⟩) 2 2, .slice none 0 0] 54)).alloc (.cells #[.string ⟨#[107]⟩, .int .i64 1, .string ⟨#[]⟩, .string ⟨#[118]⟩, .int .i64 2, .string ⟨#[]⟩, .string ⟨#[110]⟩, .int .i64 1, .string ⟨#[]⟩] 70)).alloc (.cells #[.string ⟨#[110]⟩] 9)) ⟨#[107]⟩ ⟨#[]⟩ ⟨#[114]⟩ ⟨#[116]⟩ ⟨#[110]⟩ ⟨#[]⟩ 2 1 1 (Q := fun _ => True) (w' := (((((w.alloc (.cells #[.slice (some ⟨w.heap.size + 1 + 1 + 1 + 1, 0, none⟩) 2 2, .slice none 0 0] 54)).alloc (.cells #[.string ⟨#[107]⟩, .int .i64 1, .string ⟨#[]⟩, .string ⟨#[118]⟩, .int .i64 2, .string ⟨#[]⟩, .string ⟨#[110]⟩, .int .i64 1, .string ⟨#[]⟩] 70)).alloc (.cells #[.string ⟨#[110]⟩] 9)).alloc (.cells #[.string ⟨#[107]⟩, .int .i64 2, .string ⟨#[]⟩, .string ⟨#[114]⟩, .int .i64 1, .string ⟨#[116]⟩, .string ⟨#[110]⟩, .int .i64 1, .string ⟨#[]⟩] 70)).alloc (.cells #[.string ⟨#[116]⟩, .slice (some ⟨w.heap.size + 1, 0, none⟩) 3 3, .slice (some ⟨w.heap.size + 1 + 1, 0, none⟩) 1 1, .string ⟨#[117]⟩, .slice (some ⟨w.heap.size + 1 + 1 + 1, 0, none⟩) 3 3, .slice none 0 0] 33))) (by
    rw [show (((w.alloc (.cells #[.slice (some ⟨w.heap.size + 1 + 1 + 1 + 1, 0, none⟩) 2 2, .slice none 0 0] 54)).alloc (.cells #[.string ⟨#[107]⟩, .int .i64 1, .string ⟨#[]⟩, .string ⟨#[118]⟩, .int .i64 2, .string ⟨#[]⟩, .string ⟨#[110]⟩, .int .i64 1, .string ⟨#[]⟩] 70)).alloc (.cells #[.string ⟨#[110]⟩] 9)).heap.size + 1 = ((((w.alloc (.cells #[.slice (some ⟨w.heap.size + 1 + 1 + 1 + 1, 0, none⟩) 2 2, .slice none 0 0] 54)).alloc (.cells #[.string ⟨#[107]⟩, .int .i64 1, .string ⟨#[]⟩, .string ⟨#[118]⟩, .int .i64 2, .string ⟨#[]⟩, .string ⟨#[110]⟩, .int .i64 1, .string ⟨#[]⟩] 70)).alloc (.cells #[.string ⟨#[110]⟩] 9)).alloc (.cells #[.string ⟨#[107]⟩, .int .i64 2, .string ⟨#[]⟩, .string ⟨#[114]⟩, .int .i64 1, .string ⟨#[116]⟩, .string ⟨#[110]⟩, .int .i64 1, .string ⟨#[]⟩] 70)).heap.size from by simp]
    exact bal (Below.refl _ _) _) trivial
  have hN := row1_str ((w.alloc (.cells #[.slice (some ⟨w.heap.size + 1 + 1 + 1 + 1, 0, none⟩) 2 2, .slice none 0 0] 54)).alloc (.cells #[.string ⟨#[107]⟩, .int .i64 1, .string ⟨#[]⟩, .string ⟨#[118]⟩, .int .i64 2, .string ⟨#[]⟩, .string ⟨#[110]⟩, .int .i64 1, .string ⟨#[]⟩] 70)).heap.size (w := (((((w.alloc (.cells #[.slice (some ⟨w.heap.size + 1 + 1 + 1 + 1, 0, none⟩) 2 2, .slice none 0 0] 54)).alloc (.cells #[.string ⟨#[107]⟩, .int .i64 1, .string ⟨#[]⟩, .string ⟨#[118]⟩, .int .i64 2, .string ⟨#[]⟩, .string ⟨#[110]⟩, .int .i64 1, .string ⟨#[]⟩] 70)).alloc (.cells #[.string ⟨#[110]⟩] 9)).alloc (.cells #[.string ⟨#[107]⟩, .int .i64 2, .string ⟨#[]⟩, .string ⟨#[114]⟩, .int .i64 1, .string ⟨#[116]⟩, .string ⟨#[110]⟩, .int .i64 1, .string ⟨#[]⟩] 70)).alloc (.cells #[.string ⟨#[116]⟩, .slice (some ⟨w.heap.size + 1, 0, none⟩) 3 3, .slice (some ⟨w.heap.size + 1 + 1, 0, none⟩) 1 1, .string ⟨#[117]⟩, .slice (some ⟨w.heap.size + 1 + 1 + 1, 0, none⟩) 3 3, .slice none 0 0] 33))) (x := ⟨#[110]⟩) (cell_later (bal (bal (Below.refl _ (((w.alloc (.cells #[.slice (some ⟨w.heap.size + 1 + 1 + 1 + 1, 0, none⟩) 2 2, .slice none 0 0] 54)).alloc (.cells #[.string ⟨#[107]⟩, .int .i64 1, .string ⟨#[]⟩, .string ⟨#[118]⟩, .int .i64 2, .string ⟨#[]⟩, .string ⟨#[110]⟩, .int .i64 1, .string ⟨#[]⟩] 70)).alloc (.cells #[.string ⟨#[110]⟩] 9))) (.cells #[.string ⟨#[107]⟩, .int .i64 2, .string ⟨#[]⟩, .string ⟨#[114]⟩, .int .i64 1, .string ⟨#[116]⟩, .string ⟨#[110]⟩, .int .i64 1, .string ⟨#[]⟩] 70)) (.cells #[.string ⟨#[116]⟩, .slice (some ⟨w.heap.size + 1, 0, none⟩) 3 3, .slice (some ⟨w.heap.size + 1 + 1, 0, none⟩) 1 1, .string ⟨#[117]⟩, .slice (some ⟨w.heap.size + 1 + 1 + 1, 0, none⟩) 3 3, .slice none 0 0] 33)) (cell_new ((w.alloc (.cells #[.slice (some ⟨w.heap.size + 1 + 1 + 1 + 1, 0, none⟩) 2 2, .slice none 0 0] 54)).alloc (.cells #[.string ⟨#[107]⟩, .int .i64 1, .string ⟨#[]⟩, .string ⟨#[118]⟩, .int .i64 2, .string ⟨#[]⟩, .string ⟨#[110]⟩, .int .i64 1, .string ⟨#[]⟩] 70)) #[.string ⟨#[110]⟩] 9 (0, 0) 0))
  have hc := cell_new ((((w.alloc (.cells #[.slice (some ⟨w.heap.size + 1 + 1 + 1 + 1, 0, none⟩) 2 2, .slice none 0 0] 54)).alloc (.cells #[.string ⟨#[107]⟩, .int .i64 1, .string ⟨#[]⟩, .string ⟨#[118]⟩, .int .i64 2, .string ⟨#[]⟩, .string ⟨#[110]⟩, .int .i64 1, .string ⟨#[]⟩] 70)).alloc (.cells #[.string ⟨#[110]⟩] 9)).alloc (.cells #[.string ⟨#[107]⟩, .int .i64 2, .string ⟨#[]⟩, .string ⟨#[114]⟩, .int .i64 1, .string ⟨#[116]⟩, .string ⟨#[110]⟩, .int .i64 1, .string ⟨#[]⟩] 70)) #[.string ⟨#[116]⟩, .slice (some ⟨w.heap.size + 1, 0, none⟩) 3 3, .slice (some ⟨w.heap.size + 1 + 1, 0, none⟩) 1 1, .string ⟨#[117]⟩, .slice (some ⟨w.heap.size + 1 + 1 + 1, 0, none⟩) 3 3, .slice none 0 0] 33 (0, 0)
  simp only [World.size_alloc] at hT hU hc hN
  refine ⟨_, 2, 2, rfl, rfl, Nat.le_refl _, by omega, fun _ => ⟨_, 0, rfl, trivial, fun i hi => ?_⟩⟩
  have hi' : i < 2 := hi
  match i, hi' with
  | 0, _ => exact ⟨[.string ⟨#[116]⟩, .slice (some ⟨w.heap.size + 1, 0, none⟩) 3 3, .slice (some ⟨w.heap.size + 1 + 1, 0, none⟩) 1 1], ⟨_, _, _, _, _, _, rfl, hT, hN⟩, rfl, fun j hj => by
      have hj' : j < 3 := hj
      match j, hj' with
      | 0, _ => exact hc 0
      | 1, _ => exact hc 1
      | 2, _ => exact hc 2⟩
  | 1, _ => exact ⟨[.string ⟨#[117]⟩, .slice (some ⟨w.heap.size + 1 + 1 + 1, 0, none⟩) 3 3, .slice none 0 0], ⟨_, _, _, _, _, _, rfl, hU, RowIs.nil _ _ _⟩, rfl, fun j hj => by
      have hj' : j < 3 := hj
      match j, hj' with
      | 0, _ => exact hc 3
      | 1, _ => exact hc 4
      | 2, _ => exact hc 5⟩

end Go.Proofs.YtnlaaejdianfjaaGreat
namespace Go.Proofs.YtnlaaejdianfjaaGreat
open Go.RowKit
set_option linter.unusedVariables false
set_option linter.unusedSimpArgs false

end Go.Proofs.YtnlaaejdianfjaaGreat
namespace Go.Proofs.YtnlaaejdianfjaaGreat
open Go.RowKit
set_option linter.unusedVariables false
set_option linter.unusedSimpArgs false

end Go.Proofs.YtnlaaejdianfjaaGreat
namespace Go.Proofs.YtnlaaejdianfjaaGreat
open Go.RowKit
set_option linter.unusedVariables false
set_option linter.unusedSimpArgs false

end Go.Proofs.YtnlaaejdianfjaaGreat
namespace Go.Proofs.YtnlaaejdianfjaaGreat
open Go.RowKit
set_option linter.unusedVariables false
set_option linter.unusedSimpArgs false

end Go.Proofs.YtnlaaejdianfjaaGreat
namespace Go.Proofs.YtnlaaejdianfjaaGreat
open Go.RowKit
set_option linter.unusedVariables false
set_option linter.unusedSimpArgs false

abbrev nP : Pay := (0, 0, ⟨#[]⟩, ⟨#[]⟩, ⟨#[]⟩)
abbrev litP (k i : Int) : Pg := (1, k, i, ⟨#[]⟩, ⟨#[]⟩, ⟨#[]⟩)
abbrev xEq : Pg × Tg := ((8, nP), .node 0 0 (litP 1 1) .nil (.node 0 0 (litP 1 1) .nil .nil))
abbrev xNot : Pg × Tg := ((4, nP), .node 0 0 (litP 1 1) .nil .nil)
abbrev qSel : Sq := ⟨6, ⟨#[113]⟩, ⟨#[]⟩, [], [], ⟨#[]⟩, [], [], []⟩
abbrev sSel : Sv := ⟨6, ⟨#[113]⟩, ⟨#[]⟩, (none, 0, 0), (none, 0, 0), (none, 0, 0), (none, 0, 0), ⟨#[]⟩, (none, 0, 0), (none, 0, 0), (none, 0, 0), false, (none, 0, 0)⟩
end Go.Proofs.YtnlaaejdianfjaaGreat
namespace Go.Proofs.YtnlaaejdianfjaaGreat
open Go.RowKit
set_option linter.unusedVariables false
set_option linter.unusedSimpArgs false

/-- Two literals, one beside the other, and a way. -/
abbrev litV (v : Vt) : Pg := (1, v.1, v.2.1, v.2.2, ⟨#[]⟩, ⟨#[]⟩)
abbrev xTwo (op : Int) (a b : Vt) : Pg × Tg := ((op, nP), .node 0 0 (litV a) .nil (.node 0 0 (litV b) .nil .nil))
end Go.Proofs.YtnlaaejdianfjaaGreat
namespace Go.Proofs.YtnlaaejdianfjaaGreat
open Go.RowKit
set_option linter.unusedVariables false
set_option linter.unusedSimpArgs false

end Go.Proofs.YtnlaaejdianfjaaGreat
namespace Go.Proofs.YtnlaaejdianfjaaGreat
open Go.ChangeShapes Go.WideShapes Go.ChangeAt Go.RowKit
set_option linter.unusedVariables false

theorem own : ownKnob Tryz.prog.godebug = none := by kernel_rfl
theorem laidOut : laidOutB Tryz.prog = true := by kernel_rfl

/-- A slice of whole numbers that came in: nil, or a row of cells with its spare room. -/
def IsRow (k : IntKind) (w : World) (a : Option Addr) (len cap : Nat) (zs : List Int) : Prop :=
  (a = none ∧ len = 0 ∧ cap = 0 ∧ zs = []) ∨
  ∃ x, a = some x ∧ len ≤ cap ∧ cap ≤ maxLen ∧ zs.length = cap ∧ (∀ i, i < zs.length → w.cell? (x.add i) = some (.int k (zs.getD i 0))) ∧ ∀ n ∈ zs, (Lit.int k n).wf = true

theorem Rd.of_row {k : IntKind} {w : World} {a : Option Addr} {len cap : Nat} {zs : List Int} (h : IsRow k w a len cap zs) : Rd k w a len cap (zs.take len) := by
  rcases h with ⟨rfl, rfl, rfl, rfl⟩ | ⟨x, rfl, hl, hm, hz, hc, hw⟩
  · exact Rd.nil k w
  · refine ⟨by simp; omega, hl, hm, fun e => by simp at e, fun hp => ?_⟩
    obtain ⟨b, off, spot⟩ := x
    have h0 := hc 0 (by omega)
    have hspot : spot = none := by simpa [Addr.add] using World.cell?_spot h0
    subst hspot
    refine ⟨b, off, rfl, fun i hi => ?_⟩
    have hi' := hc i (by omega)
    rw [show (⟨b, off, none⟩ : Addr).add i = ⟨b, off + i, none⟩ from by simp [Addr.add]] at hi'
    rw [hi', nth, List.getElem?_take_of_lt hi, List.getD]

/-- Its numbers fit their kind. -/
theorem row_wf {k : IntKind} {w : World} {a : Option Addr} {len cap : Nat} {zs : List Int} (h : IsRow k w a len cap zs) : ∀ n ∈ zs.take len, (Lit.int k n).wf = true := by
  rcases h with ⟨rfl, rfl, rfl, rfl⟩ | ⟨x, rfl, hl, hm, hz, hc, hw⟩
  · intro n hn; simp at hn
  · exact fun n hn => hw n (List.mem_of_mem_take hn)

theorem u8_of_row {w : World} {a : Option Addr} {len cap : Nat} {zs : List Int} (h : IsRow .u8 w a len cap zs) : ∀ x ∈ zs.take len, 0 ≤ x ∧ x ≤ 255 :=
  fun x hx => bounds_u8 (row_wf h x hx)

/-- A byte that came in. -/
theorem u8_is {a : Int} (h : (Lit.int .u8 a).wf = true) : ∃ x : UInt8, a = (x.toNat : Int) := by
  have := bounds_u8 h
  refine ⟨UInt8.ofNat a.toNat, ?_⟩
  rw [UInt8.toNat_ofNat']
  omega

end Go.Proofs.YtnlaaejdianfjaaGreat
namespace Go.Proofs.YtnlaaejdianfjaaGreat
open Go.ChangeShapes Go.WideShapes Go.ChangeAt Go.RowKit
set_option linter.unusedVariables false
set_option linter.unusedSimpArgs false

end Go.Proofs.YtnlaaejdianfjaaGreat
namespace Go.Proofs.YtnlaaejdianfjaaGreat
open Go.RowKit
set_option linter.unusedVariables false
set_option linter.unusedSimpArgs false

abbrev C0 : Cl2 := [((0, ⟨#[116]⟩, ⟨#[107]⟩), 1), ((0, ⟨#[116]⟩, ⟨#[118]⟩), 2), ((0, ⟨#[116]⟩, ⟨#[110]⟩), 1)]
abbrev S0 : List Cl3 := pairP (C0.map Prod.fst) (C0.map Prod.snd)
/-- An expression alone in another, twice in another. -/
abbrev inOne (op : Int) (x : Pg × Tg) : Pg × Tg := ((op, nP), .node 0 0 x.1 x.2 .nil)
abbrev inTwo (op : Int) (x : Pg × Tg) : Pg × Tg := ((op, nP), .node 0 0 x.1 x.2 (.node 0 0 x.1 x.2 .nil))
theorem fldT (a b : Value) (w : World) : (Instr.field 54 (.agg #[a, b]) 0).run Tryz.prog w = .ok a w := by kernel_rfl
end Go.Proofs.YtnlaaejdianfjaaGreat
namespace Go.Proofs.YtnlaaejdianfjaaGreat
open Go.RowKit
set_option linter.unusedVariables false
set_option linter.unusedSimpArgs false

/-- The values of a row by numbers. -/
def RwOK (L : List Co) (V : List Vt) : Prop := V.length = L.length ∧ ∀ i (h1 : i < L.length) (h2 : i < V.length), V[i].1 = L[i].2.1 ∧ VaOK L[i].2.1 V[i].2.1 V[i].2.2
abbrev vC (v : Vt) : List Value := [.int .i64 v.1, .int .i64 v.2.1, .string v.2.2]
end Go.Proofs.YtnlaaejdianfjaaGreat
namespace Go.Proofs.YtnlaaejdianfjaaGreat
open Go.RowKit
set_option linter.unusedVariables false
set_option linter.unusedSimpArgs false

abbrev I0 : List It := C0.map Prod.fst
abbrev K0 : List Int := C0.map Prod.snd
end Go.Proofs.YtnlaaejdianfjaaGreat
namespace Go.Proofs.YtnlaaejdianfjaaGreat
open Go.RowKit
set_option linter.unusedVariables false
set_option linter.unusedSimpArgs false

def nmT (i : Nat) : ByteArray := if i % 2 = 0 then ⟨#[116]⟩ else ⟨#[117]⟩
def nmN (i : Nat) : ByteArray := if i / 2 = 0 then ⟨#[97]⟩ else if i / 2 = 1 then ⟨#[98]⟩ else ⟨#[99]⟩
abbrev itK (i : Nat) : It := (0, nmT i, nmN i)
abbrev xCol (tb nm : ByteArray) : Pg × Tg := ((2, 0, 0, ⟨#[]⟩, tb, nm), .nil)
abbrev xCe (tb nm : ByteArray) (v : Vt) : Pg × Tg := ((8, nP), .node 0 0 (2, 0, 0, ⟨#[]⟩, tb, nm) .nil (.node 0 0 (litV v) .nil .nil))
end Go.Proofs.YtnlaaejdianfjaaGreat
namespace Go.Proofs.YtnlaaejdianfjaaGreat
open Go.RowKit
set_option linter.unusedVariables false
set_option linter.unusedSimpArgs false

/-- A row, by its head. -/
def eRow : Ek (List Vt) := ⟨1, fun Q w V cs => ∃ a n c, cs = [.slice a n c] ∧ RowIs eVal Q w (.slice a n c) V,
  fun hk ⟨a, n, c, h1, h2⟩ => ⟨a, n, c, h1, h2.keep (by decide) hk⟩, fun hk ⟨a, n, c, h1, h2⟩ => ⟨a, n, c, h1, h2.mono (by decide) hk⟩⟩
theorem row1 {Q : Nat → Prop} {w : World} {a : Option Addr} {n c : Nat} {l : List (List Vt)} (h : RowIs eRow Q w (.slice a n c) l) {k : Nat} (hk : k < l.length) : ∃ b o ra rn rc, a = some ⟨b, o, none⟩ ∧ Q b ∧ w.cell? ⟨b, o + k, none⟩ = some (.slice ra rn rc) ∧ RowIs eVal Q w (.slice ra rn rc) l[k] := by
  obtain ⟨_, _, _, e, h1, h2, h3, h4⟩ := h
  cases e
  obtain ⟨b, o, e, hq, hi⟩ := h4 (by omega)
  obtain ⟨cs, ⟨ra, rn, rc, rfl, hr⟩, hl, hc⟩ := hi k hk
  refine ⟨b, o, ra, rn, rc, e, hq, ?_, hr⟩
  have := hc 0 (show 0 < 1 by decide)
  simpa [eRow] using this
theorem wrapS {k n c : Nat} (h : k < n) (h2 : n ≤ c) (h3 : c ≤ 9223372036854775807) : IntKind.i64.wrap ((k : Int) + 1) = (k : Int) + 1 := by
  show (if (true && decide (((k : Int) + 1) % (2 ^ 64 : Int) ≥ (2 ^ (64 - 1) : Int))) = true then ((k : Int) + 1) % (2 ^ 64 : Int) - (2 ^ 64 : Int) else ((k : Int) + 1) % (2 ^ 64 : Int)) = _
  rw [if_neg (by simp; omega)]
  omega
end Go.Proofs.YtnlaaejdianfjaaGreat
namespace Go.Proofs.YtnlaaejdianfjaaGreat
open Go.RowKit
set_option linter.unusedVariables false

end Go.Proofs.YtnlaaejdianfjaaGreat
namespace Go.Proofs.YtnlaaejdianfjaaGreat
open Go.RowKit Go.Shelf
set_option linter.unusedVariables false
set_option linter.unusedSimpArgs false
attribute [local go_sem] Oper.semAt_some

theorem rowV_gr {B : Nat} {w w' : World} (hg : Gr B w w') {Q : Nat → Prop} {v : Value} {l : List Vt} (h : RowIs eVal Q w v l) : RowIs eVal Q w' v l := by
  obtain ⟨ao, n, c, hv, hl, hn, hc, hx⟩ := h
  refine ⟨ao, n, c, hv, hl, hn, hc, fun hp => ?_⟩
  obtain ⟨b, o, ha, hq, hi⟩ := hx hp
  refine ⟨b, o, ha, hq, fun i h => ?_⟩
  obtain ⟨cs, h1, h2, h3⟩ := hi i h
  exact ⟨cs, h1, h2, fun j hj => (hg.cell (h3 j hj)).1⟩
/-- The k-th row is told: it lies ahead of n0, or in what is new since s. -/
def A1 (n0 : Nat) (Rs : List (List Vt)) (k s : Nat) (W : World) (xs : Array Value) : Prop := ∃ a n c r, xs = #[.slice a n c] ∧ Rs[k]? = some r ∧ RowIs eVal (fun b => b < n0 ∨ s ≤ b) W (.slice a n c) r
theorem A1.on {n0 : Nat} {Rs : List (List Vt)} {k s s' : Nat} {W W' : World} {xs : Array Value} (h : A1 n0 Rs k s W xs) (hs : s' ≤ s) (hg : Gr 0 W W') : A1 n0 Rs k s' W' xs ∧ xs.size = 1 := by
  obtain ⟨a, n, c, r, rfl, h1, h2⟩ := h
  exact ⟨⟨a, n, c, r, rfl, h1, (rowV_gr hg h2).mono (by decide) fun b hq _ => hq.imp id (fun x => Nat.le_trans hs x)⟩, rfl⟩
set_option maxRecDepth 100000 in
set_option maxHeartbeats 2000000 in
theorem values_any {Q : Nat → Prop} {w0 : World} {B : Nat} {a : Option Addr} {n c : Nat} {L : List (List Vt)} (hB : w0.cell? ⟨B, 0, none⟩ = some (.slice a n c)) (h : RowIs eRow Q w0 (.slice a n c) L) :
    SeqW Tryz.prog 87 #[.pointer (some ⟨B, 0, none⟩)] L.length (A1 w0.heap.size L) w0 := by
  intro l J Jx W hW hY h0
  obtain ⟨l1, l2, l3⟩ := row_lens h
  have HF : Hid (∀ w', Below w0.heap.size w0 w' → ∀ i (h : i < n), ∃ b o a' n' c', a = some ⟨b, o, none⟩ ∧ w'.cell? ⟨b, o + i, none⟩ = some (.slice a' n' c') ∧ ∀ s, A1 w0.heap.size L i s w' #[.slice a' n' c']) := hid fun w' hb i hi => by
    obtain ⟨b, o, ra, rn, rc, h1, h2, h3, h4⟩ := row1 h (k := i) (by omega)
    refine ⟨b, o, ra, rn, rc, h1, cell_later hb h3, fun s => ⟨ra, rn, rc, _, rfl, List.getElem?_eq_getElem (by omega), ?_⟩⟩
    exact ((h4.mono (by decide) (Q' := fun b => b < w0.heap.size) fun b _ hl => hl).keep (by decide) fun b _ hl => hb.block b hl).mono (by decide) fun b hq _ => .inl hq
  have hBW := cell_later hW hB
  have HY : Hid _ := hid hY
  have HN : Hid (L.length = n) := hid l1
  have HJ0 : Hid (J 0 W) := hid h0
  have HG0 : Hid (Gr W.heap.size W W) := hid (Gr.refl _ _)
  rw [l1] at hY ⊢
  clear hY h l1 h0
  refine (callsIn_wide (n := 0)).1 (callsIn_of_wp Tryz.func87 rfl trivial ?_)
  simp only [Tryz.ntmps87, List.size_toArray, List.length_cons, List.length_nil, Nat.reduceAdd, Nat.reduceSub, Array.replicate_succ, Array.replicate_zero, List.push_toArray, List.append_toArray, List.nil_append, List.cons_append]
  gi_wp2
  gi_loopw [7] (fun i wr => ∃ (k : Nat) (W1 : World), k ≤ n ∧ i = .int .i64 k ∧ Hid (J k W1) ∧ Hid (Gr W.heap.size W1 wr) ∧ Below w0.heap.size w0 wr) (fun i _ => n - (intOf i).toNat)
  case atStart => exact ⟨0, W, Nat.zero_le _, rfl, HJ0, HG0, hW⟩
  case round =>
    obtain ⟨k, W1, hk, rfl, HJ, HG, hB2⟩ := hrel
    clear HJ0 HG0
    by_cases hlt : k < n
    · obtain ⟨b, o, a', n', c', rfl, hc, hA⟩ := HF.out wr hB2 k hlt
      obtain ⟨fn, tmps, assign, body, hy, hR⟩ := HY.out k W1 wr _ (by rw [HN.out]; exact hlt) HJ.out hB2 HG.out (hA _)
      have hkm : (k : Int) < (n : Int) := by omega
      have hwk := wrapS hlt l2 l3
      have HR : Hid _ := hid hR
      clear hR hA
      gi_wp2
      refine ⟨rfl, HR.out.mono ?_⟩
      rintro e' W3 ⟨hk3, ⟨rfl, hJ3⟩ | ⟨rfl, hJx3⟩⟩
      · have hB3 := hB2.trans hk3.low
        have HJ3 : Hid _ := hid hJ3
        clear hJ3 hk3 HR
        gi_wp2
        go_roundw
        case rel => exact ⟨k + 1, W3, by omega, by go_num, HJ3, hid (Gr.refl _ _), hB3⟩
        case measure => simp only [intOf]; omega
      · have hB3 := hB2.trans hk3.low
        have HJ3 : Hid _ := hid hJx3
        clear hJx3 hk3 HR
        gi_wp2
        refine bodyPost_ret (results_none rfl _ _ _) rfl ?_
        exact ⟨⟨_, rfl⟩, hB3, W3, Gr.refl _ _, .inr ⟨k + 1, by omega, HJ3.out⟩⟩
    · obtain rfl : k = n := by omega
      gi_wp2
      go_end0
      exact ⟨⟨_, rfl⟩, hB2, W1, HG.out, .inl HJ.out⟩

end Go.Proofs.YtnlaaejdianfjaaGreat
