/- The walk of the statements' own first question, 'begun'. -/
import Derived.Test.YtmeiloghgoohmaaV6
import Derived.Test.YtmeiloghgoohmaaVa
namespace Go.Proofs.Ytmeiloghgoohmaa
open Go.RowKit
set_option linter.unusedVariables false

/-- The cells of a value that lies in memory. -/
def Bx (w : World) (g : Nat) (k i : Int) (s : ByteArray) : Prop := w.cell? ⟨g, 0, none⟩ = some (.int .i64 k) ∧ w.cell? ⟨g, 1, none⟩ = some (.int .i64 i) ∧ w.cell? ⟨g, 2, none⟩ = some (.string s)
theorem Bx.later {w w' : World} {g : Nat} {k i : Int} {s : ByteArray} (h : Bx w g k i s) (hb : Below w.heap.size w w') : Bx w' g k i s := ⟨cell_later hb h.1, cell_later hb h.2.1, cell_later hb h.2.2⟩
theorem Bx.new (w : World) (k i : Int) (s : ByteArray) (t : TypeId) : Bx (w.alloc (.cells #[.int .i64 k, .int .i64 i, .string s] t)) w.heap.size k i s := box3 w _ _ _ t

theorem rd_any {w : World} {ao : Option Addr} {n c : Nat} {xs ys : List Int} (h : Rd .u8 w ao n c xs) (e : xs = ys) : Rd .u8 w ao n c ys := e ▸ h
/-- A step on. -/
theorem Below.on {a w w' : World} (h : Below a.heap.size a w) (k : Below w.heap.size w w') : Below a.heap.size a w' := h.trans (k.mono h.size)

theorem tkR_a : tkR [2, 97, 0] = .tuple #[.agg #[.int .i64 2, .int .i64 0, .string ⟨#[97]⟩], .int .i64 3, .int .i64 0] := rfl

set_option maxRecDepth 100000 in
set_option maxHeartbeats 2000000 in
theorem begun_any (w : World) : Calls Try.prog 8 #[] w fun e w' => e = .returned (.bool true) ∧ Below w.heap.size w w' := by
  have HK : Hid (∀ w, _) := fun w => key_rd none 0 0 [] 2 0 ⟨#[97]⟩ w (Rd.nil _ _) (by omega) (by decide) (by decide) (.inr rfl)
  have HK2 : Hid (∀ w, _) := fun w => key_rd none 0 0 [] 1 5 ⟨#[]⟩ w (Rd.nil _ _) (by omega) (by decide) (by decide) (.inl rfl)
  rw [show ([] : List Int) ++ keyL 2 0 (nums ⟨#[97]⟩) = [2, 97, 0] from rfl] at HK
  rw [show (([] : List Int) ++ keyL 1 5 (nums ⟨#[]⟩)).length = 9 from rfl] at HK2
  have HT : Hid (∀ (ao : Option Addr) (c : Nat) (w : World) (h : Rd .u8 w ao 3 c [2, 97, 0]), _) := fun ao c w h => take_any ao 3 c [2, 97, 0] w h (by unfold U8; decide)
  rw [tkR_a] at HT
  have HM1 : Hid (∀ w, _) := fun w => may_any 1 5 ⟨#[]⟩ (by decide) w
  have HM2 : Hid (∀ w, _) := fun w => may_any 2 0 ⟨#[97]⟩ (by decide) w
  have HM3 : Hid (∀ w, _) := fun w => may_any 0 0 ⟨#[]⟩ (by decide) w
  rw [show mayV 1 5 (nums ⟨#[]⟩) = true from rfl] at HM1
  rw [show mayV 2 0 (nums ⟨#[97]⟩) = true from rfl] at HM2
  rw [show mayV 0 0 (nums ⟨#[]⟩) = false from rfl] at HM3
  have HC : Hid (∀ w, _) := fun w => compare_any 1 5 ⟨#[]⟩ 2 0 ⟨#[97]⟩ w
  rw [show cmpV 1 5 (nums ⟨#[]⟩) 2 0 (nums ⟨#[97]⟩) = -1 from rfl] at HC
  have hb0 : Below w.heap.size w ((w.alloc (.cells #[.int .i64 1, .int .i64 5, .string ⟨#[]⟩] 24)).alloc (.cells #[.int .i64 2, .int .i64 0, .string ⟨#[97]⟩] 24)) := ((Below.refl _ _).alloc (Nat.le_refl _) _).alloc (by simp) _
  have A : Bx ((w.alloc (.cells #[.int .i64 1, .int .i64 5, .string ⟨#[]⟩] 24)).alloc (.cells #[.int .i64 2, .int .i64 0, .string ⟨#[97]⟩] 24)) w.heap.size 1 5 ⟨#[]⟩ := (Bx.new w 1 5 ⟨#[]⟩ 24).later ((Below.refl _ _).alloc (Nat.le_refl _) _)
  have B : Bx ((w.alloc (.cells #[.int .i64 1, .int .i64 5, .string ⟨#[]⟩] 24)).alloc (.cells #[.int .i64 2, .int .i64 0, .string ⟨#[97]⟩] 24)) (w.heap.size + 1) 2 0 ⟨#[97]⟩ := by simpa using Bx.new (w.alloc (.cells #[.int .i64 1, .int .i64 5, .string ⟨#[]⟩] 24)) 2 0 ⟨#[97]⟩ 24
  go_enter Try.func8, Try.ntmps8
  go_upto_region 2 with fail
  generalize (w.alloc (.cells #[.int .i64 1, .int .i64 5, .string ⟨#[]⟩] 24)).alloc (.cells #[.int .i64 2, .int .i64 0, .string ⟨#[97]⟩] 24) = W at *
  have hB : Below w.heap.size w W := hb0
  clear hb0
  obtain ⟨b0, b1, b2⟩ := B
  go_wp2_with fail
  refine Calls.mono (HK.out _) ?_
  rintro e w1 ⟨oo, q, rfl, hr, hb1⟩
  replace hB := Below.on hB hb1
  replace A := A.later hb1
  have B1 : Bx w1 (w.heap.size + 1) 2 0 ⟨#[97]⟩ := Bx.later ⟨b0, b1, b2⟩ hb1
  clear b0 b1 b2 hb1
  go_wp2_with fail
  refine Calls.mono (HT.out _ _ _ hr) ?_
  rintro e w2 ⟨rfl, hb2⟩
  replace hB := Below.on hB hb2
  replace A := A.later hb2
  replace B1 := B1.later hb2
  clear hb2 hr HT HK
  have hB3 : Below w.heap.size w (w2.alloc (.cells #[.int .i64 2, .int .i64 0, .string ⟨#[97]⟩] 24)) := hB.alloc hB.size _
  have A3 : Bx (w2.alloc (.cells #[.int .i64 2, .int .i64 0, .string ⟨#[97]⟩] 24)) w.heap.size 1 5 ⟨#[]⟩ := A.later ((Below.refl _ _).alloc (Nat.le_refl _) _)
  have B3 : Bx (w2.alloc (.cells #[.int .i64 2, .int .i64 0, .string ⟨#[97]⟩] 24)) (w.heap.size + 1) 2 0 ⟨#[97]⟩ := B1.later ((Below.refl _ _).alloc (Nat.le_refl _) _)
  have C3 : Bx (w2.alloc (.cells #[.int .i64 2, .int .i64 0, .string ⟨#[97]⟩] 24)) w2.heap.size 2 0 ⟨#[97]⟩ := Bx.new _ _ _ _ _
  clear hB A B1
  go_upto_region 3 with fail
  generalize w2.alloc (.cells #[.int .i64 2, .int .i64 0, .string ⟨#[97]⟩] 24) = X at *
  obtain ⟨a0, a1, a2⟩ := A3
  go_wp2_with fail
  refine Calls.mono (HM1.out _) ?_
  rintro e w3 ⟨rfl, hb3⟩
  have A4 : Bx w3 w.heap.size 1 5 ⟨#[]⟩ := Bx.later ⟨a0, a1, a2⟩ hb3
  replace hB3 := Below.on hB3 hb3
  replace B3 := B3.later hb3
  replace C3 := C3.later hb3
  clear a0 a1 a2 hb3 HM1
  obtain ⟨b0, b1, b2⟩ := B3
  go_wp2_with fail
  refine Calls.mono (HM2.out _) ?_
  rintro e w4 ⟨rfl, hb4⟩
  have B4 : Bx w4 (w.heap.size + 1) 2 0 ⟨#[97]⟩ := Bx.later ⟨b0, b1, b2⟩ hb4
  replace hB3 := Below.on hB3 hb4
  replace A4 := A4.later hb4
  replace C3 := C3.later hb4
  clear b0 b1 b2 hb4 HM2
  go_wp2_with fail
  refine Calls.mono (HM3.out _) ?_
  rintro e w5 ⟨rfl, hb5⟩
  replace hB3 := Below.on hB3 hb5
  replace A4 := A4.later hb5
  replace B4 := B4.later hb5
  replace C3 := C3.later hb5
  clear hb5 HM3
  obtain ⟨a0, a1, a2⟩ := A4
  obtain ⟨b0, b1, b2⟩ := B4
  go_wp2_with fail
  refine Calls.mono (HC.out _) ?_
  rintro e w6 ⟨rfl, hb6⟩
  have A6 : Bx w6 w.heap.size 1 5 ⟨#[]⟩ := Bx.later ⟨a0, a1, a2⟩ hb6
  have B6 : Bx w6 (w.heap.size + 1) 2 0 ⟨#[97]⟩ := Bx.later ⟨b0, b1, b2⟩ hb6
  replace hB3 := Below.on hB3 hb6
  replace C3 := C3.later hb6
  clear a0 a1 a2 b0 b1 b2 hb6 HC
  obtain ⟨a0, a1, a2⟩ := A6
  go_wp2_with fail
  refine Calls.mono (HK2.out _) ?_
  rintro e w7 ⟨oo2, q2, rfl, hr2, hb7⟩
  replace hB3 := Below.on hB3 hb7
  replace B6 := B6.later hb7
  replace C3 := C3.later hb7
  clear a0 a1 a2 hb7 HK2 hr2
  obtain ⟨b0, b1, b2⟩ := B6
  obtain ⟨c0, c1, c2⟩ := C3
  go_wp2
  go_ret
  exact ⟨rfl, hB3⟩

end Go.Proofs.Ytmeiloghgoohmaa
