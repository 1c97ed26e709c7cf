/- A page of the call's own; begun. -/
import Derived.Test.YtbnikjjcjjabjaaP7
namespace Go.Proofs.Ytbnikjjcjjabjaa
open Go.RowKit
set_option linter.unusedVariables false

/-- A page of the call's own, since W. -/
structure My (W w : World) (g : Nat) (R : List (List Int)) : Prop where
  pg : ∃ B, Pi w g B R allP
  own : W.heap.size ≤ g
  bel : Below W.heap.size W w
theorem My.later {W w w' : World} {g : Nat} {R : List (List Int)} (h : My W w g R) (hb : Below w.heap.size w w') : My W w' g R := by
  obtain ⟨B, hB⟩ := h.pg
  exact ⟨⟨B, hB.later hb⟩, h.own, bthen h.bel hb⟩
theorem My.turn {W w w' : World} {g : Nat} {R R' : List (List Int)} (h : My W w g R) (hr : Rest g w w') (hp : ∃ B, Pi w' g B R' allP) : My W w' g R' :=
  ⟨hp, h.own, Rest.below h.bel hr h.own h.bel.size⟩
theorem My.lt {W w : World} {g : Nat} {R : List (List Int)} (h : My W w g R) : g < w.heap.size := by
  obtain ⟨B, hB⟩ := h.pg
  exact hB.pg.lt
theorem My.alloc {W w : World} {g : Nat} {R : List (List Int)} (h : My W w g R) (o : Obj) : My W (w.alloc o) g R := h.later ((Below.refl _ _).alloc (Nat.le_refl _) _)
theorem My.drewN {W w : World} {g : Nat} {R : List (List Int)} (h : My W w g R) (n : Nat) : My W (w.drewN n) g R := by
  obtain ⟨B, hB⟩ := h.pg
  exact ⟨⟨B, hB.drewN n⟩, h.own, below_drewN h.bel n⟩
theorem my_new (W w : World) (hb : Below W.heap.size W w) : Calls Try.prog 7 #[] w fun e w' => ∃ g, e = .returned (.pointer (some ⟨g, 0, none⟩)) ∧ My W w' g [] ∧ Below w.heap.size w w' := by
  refine Calls.mono (new_any w) ?_
  rintro e w' ⟨rfl, hp, hb2⟩
  exact ⟨_, rfl, ⟨⟨_, hp⟩, hb.size, bthen hb hb2⟩, hb2⟩

/-- Bytes that the call has just laid. -/
theorem Rd.new (w : World) (l : List Int) (h : l.length ≤ 1000) : Rd .u8 (w.alloc (.cells (l.map (Value.int .u8)).toArray 5)) (some ⟨w.heap.size, 0, none⟩) l.length l.length l :=
  ⟨rfl, Nat.le_refl _, by omega, (fun e => by cases e), fun _ => ⟨_, 0, rfl, fun i hi => by
    rw [cell_of_row _ _ _ _ _ _ (heap_alloc_last w _)]
    simp [nth, hi]⟩⟩

set_option maxRecDepth 100000 in
theorem begun_any (w : World) : Calls Try.prog 6 #[] w fun e w' => e = .returned (.bool true) ∧ Below w.heap.size w w' := by
  have HN : Hid _ := my_new w w (Below.refl _ _)
  have HRD : Hid (∀ w : World, _) := fun w => Rd.new w [1, 2, 3] (by decide)
  have hby : By [1, 2, 3] := by intro x hx; simp at hx; omega
  have k1 : layE [] (vac []) [1, 2, 3] = 0 := by decide
  have k2 : layR [] (vac []) [1, 2, 3] = [[1, 2, 3]] := by decide
  have k3 : putS [] [1, 2, 3] = 0 := by decide
  have k4 : freeR [[1, 2, 3]] = 241 := by decide
  have k5 : rc [[1, 2, 3]] 0 = [1, 2, 3] := rfl
  replace k1 : Hid _ := k1
  replace k2 : Hid _ := k2
  replace k3 : Hid _ := k3
  replace k4 : Hid _ := k4
  replace k5 : Hid _ := k5
  go_enter Try.func6, Try.ntmps6
  go_wp2_with fail
  refine Calls.mono HN.out ?_
  rintro e w1 ⟨g, rfl, h1, -⟩
  go_wp2_with fail
  have h2 := h1.alloc (.cells (([1, 2, 3] : List Int).map (Value.int .u8)).toArray 5)
  have hrd := HRD.out w1
  have hgl := h1.lt
  obtain ⟨B2, p2⟩ := h2.pg
  have HP := put_any p2 hrd hby (fun a ha => by cases ha; show w1.heap.size ≠ g; omega)
  rw [k1.out, k2.out, k3.out] at HP
  refine Calls.mono HP ?_
  rintro e w3 ⟨rfl, h3, hr3⟩
  have m3 := h2.turn hr3 h3
  obtain ⟨B3, p3⟩ := h3
  have HG := get_any p3 0 (by simp [rc])
  rw [k5.out] at HG
  replace HG : Hid _ := HG
  replace h2 : Hid _ := h2
  clear h1 hrd p2 HP hr3
  go_wp2_with fail
  refine Calls.mono HG.out ?_
  rintro e w4 ⟨⟨v, rfl, hown⟩, hb4⟩
  obtain ⟨ao, c, rfl, hr, -⟩ := hown.blk
  have m4 := m3.later hb4
  have p4 := p3.later hb4
  have HF := free_any p4
  rw [k4.out] at HF
  replace HF : Hid _ := HF
  clear hr hown HG p3 m3 hb4
  go_wp2_with fail
  refine Calls.mono HF.out ?_
  rintro e w5 ⟨rfl, hb5⟩
  have p5 := p4.later hb5
  have m5 := m4.later hb5
  have HB : Hid _ := bytes_any p5
  have hB := p5.iv.len
  clear p4 m4 HF hb5 p5
  go_wp2_with fail
  refine Calls.mono HB.out ?_
  rintro e w6 ⟨⟨v, rfl, hown⟩, hb6⟩
  obtain ⟨ao2, c2, rfl, -, -⟩ := hown.blk
  have m6 := m5.later hb6
  rw [hB]
  clear m5 hown hb6 HB
  go_wp2
  go_ret
  exact ⟨rfl, m6.bel⟩

end Go.Proofs.Ytbnikjjcjjabjaa
