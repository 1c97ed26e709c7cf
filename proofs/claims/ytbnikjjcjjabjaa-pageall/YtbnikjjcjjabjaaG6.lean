/- The document's slots: try, put, set. -/
import Derived.Test.YtbnikjjcjjabjaaG5
namespace Go.Proofs.Ytbnikjjcjjabjaa
open Go.RowKit
set_option linter.unusedVariables false

theorem grown_below {B : Nat} {a w w' : World} {b : Nat} (h : Below B a w) (hg : w.grownBy w' (some b)) (hb : B ≤ b) (hB : B ≤ w.heap.size) : Below B a w' := h.grown hg hB (fun k hk => by cases hk; exact hb)
theorem lit_cell (w : World) (x : Value) (t : TypeId) : ∀ j u, [x][j]? = some u → ∃ ad, (some (⟨w.heap.size, 0, none⟩ : Addr)) = some ad ∧ (w.alloc (.cells #[x] t)).cell? (ad.add j) = some u := fun j u h => ⟨_, rfl, cell_one_new w x t j u h⟩

/-- The first step of try: a list of one's own that is as that one. -/
theorem tryA {W w : World} {q : Nat} {R : List (List Int)} {bad : Nat → Prop} (h : Sl W.heap.size W w q R bad) (hR : R.length ≤ 100) :
    ∃ (ao : Option Addr) (c : Nat) (us : List Value), w.cell? ⟨q, 0, none⟩ = some (.slice ao R.length c) ∧ us.length = R.length ∧ (∀ u ∈ us, u.oneCell' = true) ∧ (∀ j u, us[j]? = some u → ∃ ad, ao = some ad ∧ (w.alloc (.cells #[] 32)).cell? (ad.add j) = some u) ∧
    ∀ b' n' c' w1, w1.ownsRow w.heap.size 32 1 (.slice (some ⟨b', 0, none⟩) n' c') R.length us → (w.alloc (.cells #[] 32)).grownBy w1 (some w.heap.size) →
      Sl w.heap.size W (w1.alloc (.cells #[Value.slice (some ⟨b', 0, none⟩) n' c'] 29)) w1.heap.size R bad ∧ Below w.heap.size w (w1.alloc (.cells #[Value.slice (some ⟨b', 0, none⟩) n' c'] 29)) := by
  obtain ⟨ao, c, us, h1, h2, h3, h4, h5⟩ := h.src
  have hb0 : Below w.heap.size w (w.alloc (.cells #[] 32)) := (Below.refl _ _).alloc (Nat.le_refl _) _
  refine ⟨ao, c, us, h1, h2, h3, fun j u hj => ?_, fun b' n' c' w1 ho hg => ?_⟩
  · obtain ⟨ad, e, hc⟩ := h4 j u hj
    exact ⟨ad, e, cell_later hb0 hc⟩
  · have hb1 : Below w.heap.size w w1 := grown_below hb0 hg (Nat.le_refl _) hb0.size
    refine ⟨Sl.made hb1.size ho fun i hi => ?_, hb1.alloc hb1.size _⟩
    obtain ⟨u, e, hv⟩ := h5 i hi
    exact ⟨u, e, BV.later hv hb1⟩
/-- The second step: one place more, without a record. -/
theorem tryB {B : Nat} {W w0 w : World} {q : Nat} {R : List (List Int)} {bad : Nat → Prop} (h : Sl B W w q R bad) (hw : Below B w0 w) (hp : ∃ (b n c : Nat), w.cell? ⟨q, 0, none⟩ = some (.slice (some ⟨b, 0, none⟩) n c)) :
    ∃ (b c : Nat) (vs : List Value), w.cell? ⟨q, 0, none⟩ = some (.slice (some ⟨b, 0, none⟩) R.length c) ∧ vs.length = R.length ∧ (w.alloc (.cells #[Value.slice none 0 0] 32)).ownsRow B 32 1 (.slice (some ⟨b, 0, none⟩) R.length c) vs.length vs ∧
    ∀ b' n' c' w1, w1.ownsRow B 32 1 (.slice (some ⟨b', 0, none⟩) n' c') (R.length + 1) (vs ++ [Value.slice none 0 0]) → (w.alloc (.cells #[Value.slice none 0 0] 32)).grownBy w1 (some b) →
      (∃ u, w1.cell? ⟨q, 0, none⟩ = some u) ∧ w1.frozen? ⟨q, 0, none⟩ = false ∧ Sl B W (w1.setCell ⟨q, 0, none⟩ (.slice (some ⟨b', 0, none⟩) n' c')) q (R ++ [[]]) bad ∧ Below B w0 (w1.setCell ⟨q, 0, none⟩ (.slice (some ⟨b', 0, none⟩) n' c')) := by
  obtain ⟨v, vs, h1, h2, h3⟩ := h.row
  obtain ⟨b, n, c, hc⟩ := hp
  have hc2 := hc
  rw [cell_of_row _ _ _ _ _ _ h1] at hc2
  have hv : v = .slice (some ⟨b, 0, none⟩) n c := by simpa using hc2
  subst hv
  have hlen : vs.length = R.length := by rw [h2.1, Nat.mul_one]
  obtain ⟨hnn, hrow⟩ : n = R.length ∧ ∃ A, w.heap[b]? = some (.cells A 32 (0, 0)) := by
    rcases h2.2 with ⟨e, _⟩ | ⟨g, cap, cur, e, _, e3, _⟩
    · cases e
    · cases e; exact ⟨rfl, _, e3⟩
  subst hnn
  obtain ⟨A, hA⟩ := hrow
  have hBb : B ≤ b := (World.ownsRow.lt h2 b rfl).1
  have hqb : q ≠ b := fun e => by rw [e, hA] at h1; exact absurd (ty_eq h1) (by decide)
  have hal := h.later ((Below.refl _ _).alloc (Nat.le_refl _) (.cells #[Value.slice none 0 0] 32))
  have hA' : (w.alloc (.cells #[Value.slice none 0 0] 32)).heap[b]? = some (.cells A 32 (0, 0)) := by rw [Below.heap_alloc _ _ _ (Array.getElem?_eq_some_iff.1 hA).1]; exact hA
  have hwB : B ≤ w.heap.size := Nat.le_trans h.own (Nat.le_of_lt h.lt)
  refine ⟨b, c, vs, hc, hlen, by rw [hlen]; exact World.ownsRow.alloc h2 _, fun b' n' c' w1 ho hg => ?_⟩
  have hq1 : w1.heap[q]? = some (.cells #[Value.slice (some ⟨b, 0, none⟩) R.length c] 29 (0, 0)) := by
    rw [hg.block q hal.lt (fun e => hqb (Option.some.inj e)), Below.heap_alloc _ _ _ h.lt]; exact h1
  have hb1 : Below B w0 w1 := grown_below (hw.alloc hwB _) hg hBb (by simp; omega)
  refine ⟨⟨_, by rw [cell_of_row _ _ _ _ _ _ hq1]; rfl⟩, by unfold World.frozen?; rw [hq1]; rfl, hal.turned hg hA' (R' := R ++ [[]]) (by rw [List.length_append]; exact ho) fun i hi => ?_, hb1.setCell h.own _⟩
  by_cases e : i < R.length
  · obtain ⟨u, k, hu⟩ := h3 i e
    refine ⟨u, by rw [List.getElem?_append_left (by omega)]; exact k, ?_⟩
    have : rc (R ++ [[]]) i = rc R i := by simp [rc, List.getElem?_append_left e]
    rw [this]
    exact BV.later hu ((Below.refl _ _).alloc (Nat.le_refl _) _)
  · have e2 : i = R.length := by simp at hi; omega
    subst e2
    refine ⟨.slice none 0 0, by rw [← hlen]; simp, .inl ⟨by simp [rc], rfl⟩⟩

theorem ifSet {R : List (List Int)} {s : Nat} (hs : s < R.length) (b : List Int) : R.set s b = setR R s b := by rw [setR, if_pos hs]
theorem ifNew {R : List (List Int)} (b : List Int) : (R ++ [[]]).set R.length b = setR R R.length b := by rw [setR, if_neg (by omega)]; simp

set_option maxRecDepth 100000 in
set_option maxHeartbeats 1000000 in
theorem tryS_any {W w : World} {q x s n : Nat} {R : List (List Int)} {bad : Nat → Prop} {b : List Int} (h : Sl W.heap.size W w q R bad) (hR : R.length ≤ 62) (hRb : ∀ i, i < R.length → (rc R i).length ≤ 200) (hs : s ≤ R.length)
    (hx : Bx8 W w x b) (hnx : ¬ bad x) (hb : b ≠ []) (hbl : b.length = n) (hn : n ≤ 200) :
    Calls Try.prog 25 #[.pointer (some ⟨q, 0, none⟩), .int .i64 (s : Int), .slice (some ⟨x, 0, none⟩) n n] w fun e w' => e = .returned (.bool (decide (0 ≤ freeR (setR R s b)))) ∧ Sl W.heap.size W w' q (if 0 ≤ freeR (setR R s b) then setR R s b else R) bad ∧ Rest q w w' := by
  obtain ⟨R5, hR5e⟩ : ∃ R5, setR R s b = R5 := ⟨_, rfl⟩
  rw [hR5e]
  obtain ⟨f, hfe⟩ : ∃ f, freeR R5 = f := ⟨_, rfl⟩
  rw [hfe]
  replace hR5e : Hid _ := hR5e
  replace hfe : Hid _ := hfe
  obtain ⟨ao, c, us, hc, hul, h1, hsrc, hmk⟩ := tryA h (by omega)
  have hlit : (w.alloc (.cells #[] 32)).ownsRow w.heap.size 32 1 (.slice (some ⟨w.heap.size, 0, none⟩) 0 0) 0 [] := ⟨by simp, .inr ⟨w.heap.size, 0, #[], rfl, Nat.le_refl _, heap_alloc_new w _, Nat.le_refl _, by simp [maxLen], by simp, by simp⟩⟩
  have hql := h.lt
  have hwB0 : W.heap.size ≤ w.heap.size := Nat.le_trans h.own (Nat.le_of_lt h.lt)
  have hcA := cell_later ((Below.refl w.heap.size w).alloc (Nat.le_refl _) (.cells #[] 32)) hc
  obtain ⟨wa, hwa⟩ : ∃ wa, w.alloc (.cells #[] 32) = wa := ⟨_, rfl⟩
  have hwB : w.heap.size ≤ wa.heap.size := by rw [← hwa]; simp
  rw [hwa] at hsrc hmk hlit hcA
  replace hmk : Hid _ := hmk
  obtain ⟨m, hm⟩ : ∃ m, R.length = m := ⟨_, rfl⟩
  rw [hm] at hcA hul hs hR hmk
  clear hc
  go_enter Try.func25, Try.ntmps25
  go_wp2_with (refine wpList_appL rfl (.tmp 8) (.tmp 12) rfl w.heap.size 0 0 ao m c [] us rfl rfl rfl hlit hul h1 hsrc (by simp; omega) hwB ?_)
  intro b1 n1 c1 w1 ho1 hg1
  obtain ⟨t1, hB1⟩ := hmk.out b1 n1 c1 w1 ho1 hg1
  have hp1 : ∃ (b n c : Nat), (w1.alloc (.cells #[Value.slice (some ⟨b1, 0, none⟩) n1 c1] 29)).cell? ⟨w1.heap.size, 0, none⟩ = some (.slice (some ⟨b, 0, none⟩) n c) := ⟨b1, n1, c1, by rw [cell_of_row _ _ _ _ _ _ (heap_alloc_last w1 _)]; rfl⟩
  clear hmk ho1 hg1 hlit hsrc hul h1 hcA
  have hR1 : Hid (∃ R1, (R1 = if s = m then R ++ [[]] else R) ∧ s < R1.length ∧ R1.set s b = setR R s b) := by
    by_cases e : s = m
    · refine ⟨R ++ [[]], by rw [if_pos e], by rw [List.length_append]; simp; omega, ?_⟩
      rw [e, ← hm]; exact ifNew b
    · exact ⟨R, by rw [if_neg e], by omega, ifSet (by omega) b⟩
  obtain ⟨w2, hw2⟩ : ∃ w2, w1.alloc (.cells #[Value.slice (some ⟨b1, 0, none⟩) n1 c1] 29) = w2 := ⟨_, rfl⟩
  obtain ⟨p, hp⟩ : ∃ p, w1.heap.size = p := ⟨_, rfl⟩
  obtain ⟨ao2, c2, hc2, -⟩ := t1.cells
  rw [hw2] at t1 hB1 hp1 hc2
  rw [hp] at t1 hp1 hc2
  rw [hm] at hc2
  have HW : Hid (w1.alloc (.cells #[Value.slice (some ⟨b1, 0, none⟩) n1 c1] 29) = w2) := hw2
  have HP : Hid (w1.heap.size = p) := hp
  clear hw2 hp
  go_upto_region 2 with fail
  rw [HW.out, HP.out]
  clear HW HP
  obtain ⟨R1, hE, hl1, hset⟩ := hR1.out
  replace hE : Hid _ := hE
  replace hset : Hid _ := hset
  clear hR1
  go_upto_if 22 with fail
  go_cut [] (fun wd => Sl w.heap.size W wd p R1 bad ∧ Below w.heap.size w wd)
  case first =>
    by_cases e : s = m
    · have e2 : R1 = R ++ [[]] := by rw [hE.out, if_pos e]
      obtain ⟨b3, c3, vs3, hc3, hv3, ho3, hmk3⟩ := tryB t1 hB1 hp1
      have d1 : decide ((s : Int) = (m : Int)) = true := decide_eq_true (by omega)
      have d2 : ((s : Int) == (m : Int)) = true := by simp; omega
      have hwC : w.heap.size ≤ (w2.alloc (.cells #[Value.slice none 0 0] 32)).heap.size := by have := hB1.size; simp; omega
      have hcB := cell_later ((Below.refl w2.heap.size w2).alloc (Nat.le_refl _) (.cells #[Value.slice none 0 0] 32)) hc3
      have hlc := lit_cell w2 (Value.slice none 0 0) 32
      obtain ⟨wc, hwc⟩ : ∃ wc, w2.alloc (.cells #[Value.slice none 0 0] 32) = wc := ⟨_, rfl⟩
      obtain ⟨z, hz⟩ : ∃ z, w2.heap.size = z := ⟨_, rfl⟩
      rw [hwc] at hcB hlc ho3 hmk3 hwC
      rw [hz] at hlc
      rw [hm] at hcB hc3 ho3 hv3 hmk3
      rw [hv3] at ho3
      have hlv : m + 1 ≤ 1000 := by omega
      replace e2 : Hid _ := e2
      replace hmk3 : Hid _ := hmk3
      clear hc2 t1 hB1 hp1 e
      go_wp2_with (refine wpList_appL rfl (.tmp 27) (.tmp 28) rfl b3 m c3 (some ⟨z, 0, none⟩) 1 1 vs3 [Value.slice none 0 0] hv3 rfl rfl ho3 rfl (by intro u hu; rw [List.mem_singleton] at hu; subst hu; rfl) hlc hlv hwC ?_)
      intro b4 n4 c4 w4 ho4 hg4
      obtain ⟨⟨u4, hu4⟩, hf4, t4, hB4⟩ := hmk3.out b4 n4 c4 w4 ho4 hg4
      replace t4 : Hid _ := t4
      replace hB4 : Hid _ := hB4
      clear hmk3 ho4 hg4 hcB hlc hwC ho3 hwc hz hc3
      go_wp2
      go_meet
      exact ⟨by rw [e2.out]; exact t4.out, hB4.out⟩
    · have e2 : R1 = R := by rw [hE.out, if_neg e]
      have d1 : decide ((s : Int) = (m : Int)) = false := decide_eq_false (by omega)
      have d2 : ((s : Int) == (m : Int)) = false := by simp; omega
      go_wp2
      go_meet
      exact ⟨by rw [e2]; exact t1, hB1⟩
  case rest =>
    clear t1 hB1 hp1 hc2
    obtain ⟨t1, hB1⟩ := hcut
    obtain ⟨r5, c5, hc5, hlc5, hcm5, hBr5, -, -, ⟨u5, hu5⟩, hf5, hset5⟩ := t1.set hl1
    have hx5 := BV.later (show BV W w bad (.slice (some ⟨x, 0, none⟩) n n) b from .inr ⟨hb, x, by rw [hbl], hx, hnx⟩) hB1
    have t5 := hset5 _ b hx5
    rw [hset.out] at t5
    have hB5 := hB1.setCell (show w.heap.size ≤ (⟨r5, s, none⟩ : Addr).block from hBr5) (.slice (some ⟨x, 0, none⟩) n n)
    have hg5 : (s : Int) < (R1.length : Int) := by omega
    obtain ⟨l1, hl1e⟩ : ∃ l, R1.length = l := ⟨_, rfl⟩
    rw [hl1e] at hc5 hlc5 hl1 hg5
    replace t5 : Hid _ := t5
    replace hB5 : Hid _ := hB5
    clear t1 hB1 hset5 hx5 hl1e hx
    go_upto_region 5 with fail
    obtain ⟨w5, hw5⟩ : ∃ w5, wc.setCell ⟨r5, s, none⟩ (.slice (some ⟨x, 0, none⟩) n n) = w5 := ⟨_, rfl⟩
    rw [hw5] at t5 hB5 ⊢
    have hR5 : (setR R s b).length ≤ 63 := by rw [setR_len (by omega)]; omega
    have hRb5 : ∀ i, i < (setR R s b).length → (rc (setR R s b) i).length ≤ 1000 := fun i hi => by
      by_cases e : i = s
      · rw [e, setR_same (by omega)]; omega
      · rw [setR_ne (by omega) b e]
        by_cases e2 : i < R.length
        · have := hRb i e2; omega
        · rw [rc_out (by omega)]; exact Nat.zero_le _
    have hfr : Hid _ := freeS_any t5.out (by omega) hRb5
    rw [hR5e.out] at hfr t5
    rw [hfe.out] at hfr
    have hq5 : Hid (Sl W.heap.size W w5 q R bad) := h.later hB5.out
    clear hset hR5 hRb5 hRb hw5 hc5 hu5 hf5 hR5e h hfe
    go_wp2_with fail
    refine Calls.mono hfr.out ?_
    rintro e w6 ⟨rfl, rfl⟩
    by_cases h0 : 0 ≤ f
    · have d1 : decide (0 ≤ f) = true := decide_eq_true h0
      have d2 : ¬ f < 0 := by omega
      obtain ⟨av, nv, cv, hv, hq6⟩ := hq5.out.take t5.out hwB0
      obtain ⟨a7, c7, hq7, -, hq8, -⟩ := hq5.out.cells
      replace hq6 : Hid _ := hq6
      have hr6 : Hid _ := (Rest.of hB5.out).trans (Rest.set q 0 _ (.slice av nv cv))
      clear hq5 t5 hB5 hfr
      go_wp2
      go_ret
      exact ⟨by first | rfl | rw [d1], hq6.out, hr6.out⟩
    · have d1 : decide (0 ≤ f) = false := decide_eq_false h0
      have d2 : f < 0 := by omega
      clear t5 hfr
      go_wp2
      go_ret
      exact ⟨by first | rfl | rw [d1], hq5.out, Rest.of hB5.out⟩

end Go.Proofs.Ytbnikjjcjjabjaa
