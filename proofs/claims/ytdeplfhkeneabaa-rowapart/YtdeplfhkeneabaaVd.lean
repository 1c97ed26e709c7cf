/- Values that lie in memory. -/
import Derived.Test.YtdeplfhkeneabaaVa
namespace Go.Proofs.Ytdeplfhkeneabaa
open Go.RowKit
set_option linter.unusedVariables false

/-- The cells of a value that lies in memory. -/
def Bx (w : World) (g : Nat) (k i : Int) (s : ByteArray) : Prop := w.cell? ⟨g, 0, none⟩ = some (.int .i64 k) ∧ w.cell? ⟨g, 1, none⟩ = some (.int .i64 i) ∧ w.cell? ⟨g, 2, none⟩ = some (.string s)
theorem Bx.later {w w' : World} {g : Nat} {k i : Int} {s : ByteArray} (h : Bx w g k i s) (hb : Below w.heap.size w w') : Bx w' g k i s := ⟨cell_later hb h.1, cell_later hb h.2.1, cell_later hb h.2.2⟩
theorem Bx.new (w : World) (k i : Int) (s : ByteArray) (t : TypeId) : Bx (w.alloc (.cells #[.int .i64 k, .int .i64 i, .string s] t)) w.heap.size k i s := box3 w _ _ _ t

theorem rd_any {w : World} {ao : Option Addr} {n c : Nat} {xs ys : List Int} (h : Rd .u8 w ao n c xs) (e : xs = ys) : Rd .u8 w ao n c ys := e ▸ h
/-- A step on. -/
theorem Below.on {a w w' : World} (h : Below a.heap.size a w) (k : Below w.heap.size w w') : Below a.heap.size a w' := h.trans (k.mono h.size)

theorem tkR_a : tkR [2, 97, 0] = .tuple #[.agg #[.int .i64 2, .int .i64 0, .string ⟨#[97]⟩], .int .i64 3, .int .i64 0] := rfl

theorem Bx.two (w : World) (k i : Int) (s : ByteArray) (k' i' : Int) (s' : ByteArray) : Bx ((w.alloc (.cells #[.int .i64 k, .int .i64 i, .string s] 35)).alloc (.cells #[.int .i64 k', .int .i64 i', .string s'] 35)) w.heap.size k i s ∧ Bx ((w.alloc (.cells #[.int .i64 k, .int .i64 i, .string s] 35)).alloc (.cells #[.int .i64 k', .int .i64 i', .string s'] 35)) (w.heap.size + 1) k' i' s' ∧ Below w.heap.size w ((w.alloc (.cells #[.int .i64 k, .int .i64 i, .string s] 35)).alloc (.cells #[.int .i64 k', .int .i64 i', .string s'] 35)) :=
  ⟨(Bx.new w k i s 35).later ((Below.refl _ _).alloc (Nat.le_refl _) _), by simpa using Bx.new (w.alloc (.cells #[.int .i64 k, .int .i64 i, .string s] 35)) k' i' s' 35, ((Below.refl _ _).alloc (Nat.le_refl _) _).alloc (by simp) _⟩

theorem mayV_kind {k n : Int} {l : List Int} (h : mayV k n l = true) : (k = 1 ∨ k = 2) ∧ l.length ≤ 30 := by
  rcases mayV_one h with ⟨rfl, rfl⟩ | ⟨rfl, rfl, hl, ht⟩
  · exact ⟨.inl rfl, by simp⟩
  · exact ⟨.inr rfl, hl⟩

end Go.Proofs.Ytdeplfhkeneabaa
