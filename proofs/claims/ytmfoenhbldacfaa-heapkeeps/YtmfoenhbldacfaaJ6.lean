/- Does the heap do anything yet? -/
import Derived.Test.YtmfoenhbldacfaaJ5
import Derived.Test.YtmfoenhbldacfaaP8
namespace Go.Proofs.Ytmfoenhbldacfaa
open Go.RowKit
set_option linter.unusedVariables false
set_option linter.unusedSimpArgs false

/-- Bytes of the call's own, laid just now. -/
theorem put_new {B : Nat} {w : World} {hb : Nat} {M : Int → Option (List Int)} {N k : Nat} (h : HA B w hb M N k) (id : Int) (b : List Int) (hby : By b) (h0 : b ≠ []) (h2 : b.length ≤ 200) (hN : N ≤ 700) (hk : k ≤ 900000) :
    Calls Try.prog 9 #[.pointer (some ⟨hb, 0, none⟩), .int .u64 id, .slice (some ⟨w.heap.size, 0, none⟩) b.length b.length] (w.alloc (.cells (b.map (Value.int .u8)).toArray 5)) fun e w' => e = .returned (.int .i64 0) ∧ HA B w' hb (fun j => if j = id then some b else M j) (if M id = none then N + 1 else N) (k + 1) ∧ Ft B noX w w' := by
  have hb0 : Below w.heap.size w (w.alloc (.cells (b.map (Value.int .u8)).toArray 5)) := (Below.refl _ _).alloc (Nat.le_refl _) _
  refine Calls.mono (hput_any (h.later hb0) id (Rd.new w b (by omega)) hby h0 h2 (fun a ha => by cases ha; exact ⟨_, heap_alloc_last w _⟩) hN hk) ?_
  rintro e w' ⟨rfl, h1, h3⟩
  exact ⟨rfl, h1, (Ft.of hb0).trans h3⟩
theorem HA.bw {B : Nat} {w : World} {hb : Nat} {M : Int → Option (List Int)} {N k : Nat} (h : HA B w hb M N k) : B ≤ w.heap.size := by
  obtain ⟨H, _, h2, _⟩ := h.ex
  exact h2.bw
theorem two_sorted {l : List Int} (hl : l.length = 2) (hm : ∀ x, x ∈ l ↔ x = 5 ∨ x = 3) (hs : ∀ i j, i < j → j < l.length → nth l i ≤ nth l j) : l = [3, 5] := by
  match l, hl with
  | [a, b], _ =>
    have h1 := hs 0 1 (by omega) (by simp)
    have h5 := (hm 5).2 (.inl rfl)
    have h3 := (hm 3).2 (.inr rfl)
    have ha := (hm a).1 (by simp)
    have hb := (hm b).1 (by simp)
    simp [nth] at h1 h5 h3
    have : a = 3 ∧ b = 5 := by omega
    rw [this.1, this.2]

set_option maxRecDepth 100000 in
set_option maxHeartbeats 2000000 in
theorem begun14_any (w : World) : Calls Try.prog 6 #[] w fun e w' => e = .returned (.bool true) ∧ Below w.heap.size w w' := by
  have HN : Hid _ := hnew_any w w.heap.size (Nat.le_refl _)
  have H1 : Hid (∀ w1 hb, HA w.heap.size w1 hb (fun _ => none) 0 0 → Calls Try.prog 9 #[.pointer (some ⟨hb, 0, none⟩), .int .u64 5, .slice (some ⟨w1.heap.size, 0, none⟩) 1 1] (w1.alloc (.cells #[.int .u8 1] 5)) fun e w' => e = .returned (.int .i64 0) ∧ HA w.heap.size w' hb (fun j => if j = 5 then some [1] else none) 1 1 ∧ Ft w.heap.size noX w1 w') := fun w1 hb k => put_new k 5 [1] (fun x hx => by simp at hx; omega) (by simp) (by decide) (by omega) (by omega)
  have H2 : Hid (∀ w1 hb, HA w.heap.size w1 hb (fun j => if j = 5 then some [1] else none) 1 1 → Calls Try.prog 9 #[.pointer (some ⟨hb, 0, none⟩), .int .u64 3, .slice (some ⟨w1.heap.size, 0, none⟩) 2 2] (w1.alloc (.cells #[.int .u8 2, .int .u8 2] 5)) fun e w' => e = .returned (.int .i64 0) ∧ HA w.heap.size w' hb (fun j => if j = 3 then some [2, 2] else if j = 5 then some [1] else none) 2 2 ∧ Ft w.heap.size noX w1 w') := fun w1 hb k => put_new k 3 [2, 2] (fun x hx => by simp at hx; omega) (by simp) (by decide) (by omega) (by omega)
  have H3 : Hid (∀ w1 hb, HA w.heap.size w1 hb (fun j => if j = 3 then some [2, 2] else if j = 5 then some [1] else none) 2 2 → Calls Try.prog 18 #[.pointer (some ⟨hb, 0, none⟩)] w1 fun e w' => (∃ g c, e = .returned (.slice (some ⟨g, 0, none⟩) 2 c) ∧ 2 ≤ c ∧ c ≤ 9223372036854775807 ∧ w'.cell? ⟨g, 0, none⟩ = some (.int .u64 3)) ∧ Below w1.heap.size w1 w') := fun w1 hb k => by
    refine Calls.mono (hids_any k (by omega) (by omega)) ?_
    rintro e w' ⟨⟨v, l, rfl, q1, q2, q3, q4⟩, hb2⟩
    have hl := two_sorted q2 (fun x => by
      rw [q3]
      by_cases h3 : x = 3
      · simp [h3]
      · by_cases h5 : x = 5 <;> simp [h3, h5]) q4
    subst hl
    rcases q1.2 with ⟨_, h0⟩ | ⟨g, cap, cur, h1, h2, h3, h4, h5, h6, h7⟩
    · cases h0
    · refine ⟨⟨g, cap, by rw [h1]; rfl, h4, by simpa [maxLen] using h5, ?_⟩, hb2⟩
      rw [cell_of_row _ _ _ _ _ _ h3]
      have := congrArg (fun l => l[0]?) h7
      simp only [List.getElem?_take] at this
      rw [if_pos (by decide), Array.getElem?_toList] at this
      exact this
  have H4 : Hid (∀ w1 hb, HA w.heap.size w1 hb (fun j => if j = 3 then some [2, 2] else if j = 5 then some [1] else none) 2 2 → Calls Try.prog 15 #[.pointer (some ⟨hb, 0, none⟩), .int .u64 3] w1 fun e w' => (∃ a c, e = .returned (.tuple #[.slice a 2 c, .int .i64 0]) ∧ 2 ≤ c) ∧ Below w1.heap.size w1 w') := fun w1 hb k => by
    refine Calls.mono (hget_any k 3 (b := [2, 2]) (by simp)) ?_
    rintro e w' ⟨⟨v, rfl, hv⟩, hb2⟩
    obtain ⟨ao, c, rfl, hr⟩ := hv.rd
    exact ⟨⟨ao, c, rfl, hr.cap⟩, hb2⟩
  go_enter Try.func6, Try.ntmps6
  go_wp2_with fail
  refine Calls.mono HN.out ?_
  rintro e w1 ⟨hb, rfl, hA1, hb1⟩
  have K1 : Hid _ := H1.out w1 hb hA1
  clear HN H1 hA1
  go_wp2_with fail
  refine Calls.mono K1.out ?_
  rintro e w2 ⟨rfl, hA2, hf2⟩
  have K2 : Hid _ := H2.out w2 hb hA2
  have hB2 : Below w.heap.size w w2 := Ft.below hb1 hf2 hb1.size
  clear K1 H2 hA2 hf2 hb1
  go_wp2_with fail
  refine Calls.mono K2.out ?_
  rintro e w3 ⟨rfl, hA3, hf3⟩
  have K3 : Hid _ := H3.out w3 hb hA3
  have hB3 : Below w.heap.size w w3 := Ft.below hB2 hf3 hB2.size
  clear K2 H3 hf3 hB2
  go_wp2_with fail
  refine Calls.mono K3.out ?_
  rintro e w4 ⟨⟨g, c, rfl, hc1, hc2, c0⟩, hb4⟩
  have hA4 := hA3.later hb4
  have K4 : Hid _ := H4.out w4 hb hA4
  have hB4 : Below w.heap.size w w4 := bthen hB3 hb4
  clear K3 H4 hb4 hB3 hA3
  go_wp2_with fail
  refine Calls.mono K4.out ?_
  rintro e w5 ⟨⟨a5, c5, rfl, hc5⟩, hb5⟩
  have hA5 := hA4.later hb5
  have hB5 : Below w.heap.size w w5 := bthen hB4 hb5
  have c5' : w5.cell? ⟨g, 0, none⟩ = some (.int .u64 3) := bcl hb5 c0
  have K5 : Hid _ := hlen_any hA5
  clear K4 hb5 hB4 hA4 hA5 c0
  go_wp2_with fail
  refine Calls.mono K5.out ?_
  rintro e w6 ⟨rfl, rfl⟩
  clear K5
  go_wp2
  go_ret
  exact ⟨rfl, hB5⟩

end Go.Proofs.Ytmfoenhbldacfaa
