import Derived.Test.YtmfoenhbldacfaaQah
/- The page's own calls: Put, Get, Set, Drop, Bytes. -/
namespace Go.Proofs.Ytmfoenhbldacfaa
open Go.RowKit
set_option linter.unusedVariables false

theorem Own.blk {B : Nat} {w : World} {v : Value} {l : List Int} (h : Own B w v l) : ∃ ao c, v = .slice ao l.length c ∧ Rd .u8 w ao l.length c l ∧ ∀ a, ao = some a → B ≤ a.block := by
  obtain ⟨ao, c, hv, hr⟩ := Rd.of_owns h
  refine ⟨ao, c, hv, hr, fun a ha => ?_⟩
  rcases h.2 with ⟨e, _⟩ | ⟨b, cap, cur, e, hb, _⟩
  · rw [hv] at e
    simp only [Value.slice.injEq] at e
    rw [e.1] at ha; cases ha
  · rw [hv] at e
    simp only [Value.slice.injEq] at e
    rw [e.1] at ha; cases ha; exact hb

theorem own_empty (w : World) : Own w.heap.size (w.alloc (.cells #[] 5)) (.slice (some ⟨w.heap.size, 0, none⟩) 0 0) [] :=
  ⟨by simp, .inr ⟨w.heap.size, 0, #[], rfl, Nat.le_refl _, heap_alloc_last w _, by simp, by simp [maxLen], by simp, by simp⟩⟩

set_option maxRecDepth 100000 in
theorem clone_any {w : World} {ad : Addr} {n c : Nat} {b : List Int} (h : Rd .u8 w (some ad) n c b) (hn : n ≤ 1000) :
    Calls Try.prog 39 #[.slice (some ad) n c] w fun e w' => (∃ v, e = .returned v ∧ Own w.heap.size w' v b) ∧ Below w.heap.size w w' := by
  have hl := h.len
  have hs : Hid (∀ w', Below w.heap.size w w' → SrcB w' 31 (.slice (some ad) n c) b) := fun w' hb => SrcB.ofRd (h.later hb)
  have hb : b.length ≤ 1000 := by omega
  have hnil : ∀ w', (binOp .eql 31 (.slice (some ad) n c) (.slice none 0 0)).run Try.prog w' = .ok (.bool false) w' := fun w' => Go.Lib.run_eql_slice_nil w' 31 5 (some ad) n c 0 0 Try.underlying31
  clear h hl
  go_enter Try.func39, Try.ntmps39
  go_upto_region 3 with fail
  go_wp2_with (at_builtin; go_must (refine wpList_app rfl (.tmp 5) (.tmp 6) 31 rfl w.heap.size _ _ [] b rfl rfl (own_empty w) (hs.out _ ((Below.refl _ _).alloc (Nat.le_refl _) _)) (by simp; omega) (by simp) ?_))
  intro v w2 hown hb2 _
  go_wp2
  go_ret
  exact ⟨⟨v, rfl, hown⟩, ((Below.refl _ _).alloc (Nat.le_refl _) _).trans hb2⟩

theorem find_nil (z : Int) (w : World) : Calls Try.prog 38 #[.pointer none, .int .i64 z] w fun e w' => e = .returned (.int .i64 1) ∧ w' = w := by
  go_enter Try.func38, Try.ntmps38
  go_wp2
  go_ret
  exact ⟨rfl, rfl⟩

theorem find_any {w : World} {g : Nat} {B : List Int} {R : List (List Int)} {p : Nat → Prop} (h : Pi w g B R p) (z : Int) :
    Calls Try.prog 38 #[.pointer (some ⟨g, 0, none⟩), .int .i64 z] w fun e w' => e = .returned (.int .i64 (if hasZ R z = true then 0 else 22)) ∧ Below w.heap.size w w' := by
  have H := has_any h z
  cases e : hasZ R z with
  | true =>
    rw [e] at H
    replace H : Hid _ := H
    clear e
    go_enter Try.func38, Try.ntmps38
    go_wp2_with fail
    refine Calls.mono H.out ?_
    rintro e w1 ⟨rfl, hb⟩
    go_wp2
    go_ret
    exact ⟨rfl, hb⟩
  | false =>
    rw [e] at H
    replace H : Hid _ := H
    clear e
    go_enter Try.func38, Try.ntmps38
    go_wp2_with fail
    refine Calls.mono H.out ?_
    rintro e w1 ⟨rfl, hb⟩
    go_wp2
    go_ret
    exact ⟨rfl, hb⟩

theorem lay_any {w : World} {g : Nat} {B : List Int} {R : List (List Int)} (h : Pi w g B R allP) (s : Nat) (hs : s ≤ R.length) {ao : Option Addr} {n c : Nat} {b : List Int} (hb : Rd .u8 w ao n c b) (hby : By b)
    (hao : ∀ a, ao = some a → a.block ≠ g) :
    Calls Try.prog 31 #[.pointer (some ⟨g, 0, none⟩), .int .i64 (s : Int), .slice ao n c] w fun e w' => e = .returned (.int .i64 (layE R s b)) ∧ (∃ B', Pi w' g B' (layR R s b) allP) ∧ Rest g w w' := by
  have hl := hb.len
  have hm := hb.max
  have hc := hb.cap
  by_cases h0 : n = 0 ∨ 200 < n
  · have e : layE R s b = 7 := layE_long (by rw [hl]; exact h0)
    rw [layR, e, if_neg (by decide)]
    refine Calls.mono (lay_long h s h0 (by omega)) ?_
    rintro e w' ⟨rfl, rfl⟩
    exact ⟨rfl, ⟨B, h⟩, Rest.refl _ _⟩
  · by_cases hf : 0 ≤ freeR (setR R s b)
    · have e : layE R s b = 0 := layE_ok (by omega) (by omega) hf
      rw [layR, e, if_pos rfl]
      exact lay_ok h s hs (by omega) (by omega) b hb hby hao hf
    · have e : layE R s b = 25 := layE_full (by omega) (by omega) hf
      rw [layR, e, if_neg (by decide)]
      refine Calls.mono (lay_full h s hs (by omega) (by omega) b hl hf) ?_
      rintro e w' ⟨rfl, hb1⟩
      exact ⟨rfl, ⟨B, h.later hb1⟩, Rest.of hb1⟩

theorem layE_is (R : List (List Int)) (s : Nat) (b : List Int) : layE R s b = 7 ∨ layE R s b = 25 ∨ layE R s b = 0 := by
  unfold layE; split
  · exact .inl rfl
  · split
    · exact .inr (.inl rfl)
    · exact .inr (.inr rfl)

/-- The slot that a put tells. -/
def putS (R : List (List Int)) (b : List Int) : Int := if layE R (vac R) b = 0 then (vac R : Int) else 0

theorem put_nil (v : Value) (w : World) : Calls Try.prog 20 #[.pointer none, v] w fun e w' => e = .returned (.tuple #[.int .i64 0, .int .i64 1]) ∧ w' = w := by
  go_enter Try.func20, Try.ntmps20
  go_wp2
  go_ret2
  exact ⟨rfl, rfl⟩

theorem put_any {w : World} {g : Nat} {B : List Int} {R : List (List Int)} (h : Pi w g B R allP) {ao : Option Addr} {n c : Nat} {b : List Int} (hb : Rd .u8 w ao n c b) (hby : By b) (hao : ∀ a, ao = some a → a.block ≠ g) :
    Calls Try.prog 20 #[.pointer (some ⟨g, 0, none⟩), .slice ao n c] w fun e w' => e = .returned (.tuple #[.int .i64 (putS R b), .int .i64 (layE R (vac R) b)]) ∧ (∃ B', Pi w' g B' (layR R (vac R) b) allP) ∧ Rest g w w' := by
  have HV : Hid _ := vacant_any h
  have HL : Hid (∀ w', Below w.heap.size w w' → _) := fun w' hb1 => lay_any (h.later hb1) (vac R) (vac_le R) (hb.later hb1) hby hao
  have he := layE_is R (vac R) b
  by_cases h0 : layE R (vac R) b = 0
  · have hS : putS R b = (vac R : Int) := by rw [putS, if_pos h0]
    rw [hS]
    generalize layR R (vac R) b = R1 at *
    rw [h0] at HL ⊢
    clear hS h0 he hao hb hby h
    go_enter Try.func20, Try.ntmps20
    go_wp2_with fail
    refine Calls.mono HV.out ?_
    rintro e w1 ⟨rfl, hb1⟩
    go_wp2_with fail
    refine Calls.mono (HL.out _ hb1) ?_
    rintro e w2 ⟨rfl, h2, hr2⟩
    go_wp2
    go_ret2
    exact ⟨rfl, h2, (Rest.of hb1).trans hr2⟩
  · have hS : putS R b = 0 := by rw [putS, if_neg h0]
    rw [hS]
    generalize layR R (vac R) b = R1 at *
    obtain ⟨x, hx⟩ : ∃ x, layE R (vac R) b = x := ⟨_, rfl⟩
    rw [hx] at HL h0 ⊢
    have g1 : (x == 0) = false := by simpa using h0
    clear hS he hao hb hby h hx
    go_enter Try.func20, Try.ntmps20
    go_wp2_with fail
    refine Calls.mono HV.out ?_
    rintro e w1 ⟨rfl, hb1⟩
    go_wp2_with fail
    refine Calls.mono (HL.out _ hb1) ?_
    rintro e w2 ⟨rfl, h2, hr2⟩
    go_wp2
    go_ret2
    exact ⟨rfl, h2, (Rest.of hb1).trans hr2⟩

theorem hasZ_is {R : List (List Int)} {z : Int} (h : hasZ R z = true) : ∃ s : Nat, z = (s : Int) ∧ rc R s ≠ [] := by
  simp only [hasZ, Bool.and_eq_true, decide_eq_true_eq] at h
  refine ⟨z.toNat, by omega, ?_⟩
  simpa using h.2

theorem drop_nil (z : Int) (w : World) : Calls Try.prog 34 #[.pointer none, .int .i64 z] w fun e w' => e = .returned (.int .i64 1) ∧ w' = w := by
  have H : Hid _ := find_nil z w
  go_enter Try.func34, Try.ntmps34
  go_wp2_with fail
  refine Calls.mono H.out ?_
  rintro e w1 ⟨rfl, rfl⟩
  go_wp2
  go_ret
  exact ⟨rfl, rfl⟩

theorem drop_no {w : World} {g : Nat} {B : List Int} {R : List (List Int)} {p : Nat → Prop} (h : Pi w g B R p) (z : Int) (hz : hasZ R z = false) :
    Calls Try.prog 34 #[.pointer (some ⟨g, 0, none⟩), .int .i64 z] w fun e w' => e = .returned (.int .i64 22) ∧ Below w.heap.size w w' := by
  have H := find_any h z
  rw [hz] at H
  replace H : Hid _ := H
  go_enter Try.func34, Try.ntmps34
  go_wp2_with fail
  refine Calls.mono H.out ?_
  rintro e w1 ⟨rfl, hb⟩
  go_wp2
  go_ret
  exact ⟨rfl, hb⟩

theorem drop_any {w : World} {g : Nat} {B : List Int} {R : List (List Int)} (h : Pi w g B R allP) (s : Nat) (hs : rc R s ≠ []) :
    Calls Try.prog 34 #[.pointer (some ⟨g, 0, none⟩), .int .i64 (s : Int)] w fun e w' => e = .returned (.int .i64 0) ∧ (∃ B', Pi w' g B' (trimR (R.set s [])) allP) ∧ Rest g w w' := by
  have H := find_any h (s : Int)
  rw [show hasZ R (s : Int) = true from by rw [hasZ_nat]; simpa using hs] at H
  replace H : Hid _ := H
  have HW : Hid (∀ w', Below w.heap.size w w' → _) := fun w' hb1 => wipe_any (h.later hb1) s hs
  clear h hs
  go_enter Try.func34, Try.ntmps34
  go_wp2_with fail
  refine Calls.mono H.out ?_
  rintro e w1 ⟨rfl, hb1⟩
  go_wp2_with fail
  refine Calls.mono (HW.out _ hb1) ?_
  rintro e w2 ⟨rfl, ⟨B2, h2⟩, hr2⟩
  have HT : Hid _ := trim_any h2
  clear h2
  go_wp2_with fail
  refine Calls.mono HT.out ?_
  rintro e w3 ⟨rfl, h3, hr3⟩
  go_wp2
  go_ret
  exact ⟨rfl, h3, ((Rest.of hb1).trans hr2).trans hr3⟩

theorem get_nil (z : Int) (w : World) : Calls Try.prog 27 #[.pointer none, .int .i64 z] w fun e w' => e = .returned (.tuple #[.slice none 0 0, .int .i64 1]) ∧ w' = w := by
  have H : Hid _ := find_nil z w
  go_enter Try.func27, Try.ntmps27
  go_wp2_with fail
  refine Calls.mono H.out ?_
  rintro e w1 ⟨rfl, rfl⟩
  go_wp2
  go_ret2
  exact ⟨rfl, rfl⟩

theorem get_no {w : World} {g : Nat} {B : List Int} {R : List (List Int)} {p : Nat → Prop} (h : Pi w g B R p) (z : Int) (hz : hasZ R z = false) :
    Calls Try.prog 27 #[.pointer (some ⟨g, 0, none⟩), .int .i64 z] w fun e w' => e = .returned (.tuple #[.slice none 0 0, .int .i64 22]) ∧ Below w.heap.size w w' := by
  have H := find_any h z
  rw [hz] at H
  replace H : Hid _ := H
  go_enter Try.func27, Try.ntmps27
  go_wp2_with fail
  refine Calls.mono H.out ?_
  rintro e w1 ⟨rfl, hb⟩
  go_wp2
  go_ret2
  exact ⟨rfl, hb⟩

theorem get_any {w : World} {g : Nat} {B : List Int} {R : List (List Int)} (h : Pi w g B R allP) (s : Nat) (hs : rc R s ≠ []) :
    Calls Try.prog 27 #[.pointer (some ⟨g, 0, none⟩), .int .i64 (s : Int)] w fun e w' => (∃ v, e = .returned (.tuple #[v, .int .i64 0]) ∧ Own w.heap.size w' v (rc R s)) ∧ Below w.heap.size w w' := by
  have H := find_any h (s : Int)
  rw [show hasZ R (s : Int) = true from by rw [hasZ_nat]; simpa using hs] at H
  replace H : Hid _ := H
  have hf := h.iv.few
  have ht := tot_ge R s
  have HR : Hid (∀ w', Below w.heap.size w w' → _) := fun w' hb1 => record_any (h.later hb1) s hs trivial
  have HC : Hid (∀ w', Below w.heap.size w w' → _) := fun w' hb1 => clone_any (Iv.rd (h.later hb1) (s := s) trivial hs) (by omega)
  clear h hs hf ht
  go_enter Try.func27, Try.ntmps27
  go_wp2_with fail
  refine Calls.mono H.out ?_
  rintro e w1 ⟨rfl, hb1⟩
  go_wp2_with fail
  refine Calls.mono (HR.out _ hb1) ?_
  rintro e w2 ⟨rfl, hb2⟩
  have hb3 := bthen hb1 hb2
  go_wp2_with fail
  refine Calls.mono (HC.out _ hb3) ?_
  rintro e w3 ⟨⟨v, rfl, hown⟩, hb4⟩
  have hown2 := hown.base (B' := w.heap.size) hb3.size
  replace hown2 : Hid _ := hown2
  clear hown HC HR H
  go_wp2
  go_ret2
  exact ⟨⟨v, rfl, hown2.out⟩, bthen hb3 hb4⟩

theorem Pg.rd {w : World} {g : Nat} {B : List Int} (h : Pg w g B) (hB : B.length = 256) : Rd .u8 w (some ⟨g, 0, none⟩) 256 256 B :=
  ⟨hB, by omega, by omega, (fun e => by cases e), fun _ => ⟨g, 0, rfl, fun i hi => by rw [Nat.zero_add]; exact h.cell (by omega)⟩⟩

end Go.Proofs.Ytmfoenhbldacfaa
