/- The walk of the reader's quoted. -/
import Derived.Test.YtjlmcnbmhgabpaaGreatL7
namespace Go.Proofs.YtjlmcnbmhgabpaaGreat
open Go.RowKit
set_option linter.unusedVariables false

set_option maxRecDepth 100000 in
set_option maxHeartbeats 2000000 in
theorem quoted_any {g : Nat} {s : ByteArray} {j : Nat} {w : World} (h : Rr w g s j) (hs : s.size ≤ 400) (hj : j < s.size) :
    Calls Tryz.prog 75 #[.pointer (some ⟨g, 0, none⟩)] w fun e w' => e = .returned (wrA (quoW s j)) ∧ But g w w' ∧ ((quoW s j).er = 0 → Rr w' g s (quoW s j).nx) := by
  have hgl := h.lt
  have k0 := h.c1
  have kf := h.f1
  have HC : Hid (∀ (k : Nat) (w' : World), Rr w' g s k → k ≤ s.size → _) := fun k w' hr hk => closed_any hr hs hk
  have HT : Hid (∀ (k : Nat) (w' : World), Rr w' g s k → k ≤ s.size → _) := fun k w' hr hk => take_any hr (by omega) hk (such_text g w')
  have H1 : Hid (∀ k l, Qv s j k l → got (isB 39) s k = true → got (isB 39) s (k + 1) = false → quoW s j = if 30 < l.length then flt j 7 else wrd (4, ⟨l.toArray⟩, 0, j) (k + 1)) := fun k l q a b => q.close a b
  have H2 : Hid (∀ k l, Qv s j k l → got (isB 39) s k = false → got isT s k = false → quoW s j = flt k 4) := fun k l q a b => q.bad a b
  generalize quoW s j = RR at *
  have hne : ¬ w.heap.size = g := by omega
  have hne' : ¬ g = w.heap.size := by omega
  go_enter Tryz.func75, Tryz.ntmps75
  go_wp2
  go_loopw [6] (fun tv wr => ∃ (k : Nat) (l : List UInt8), j + 1 ≤ k ∧ k ≤ s.size ∧ l.length ≤ k ∧ Rr wr g s k ∧ Qv s j k l ∧ Zr wr w.heap.size ∧ But g w wr ∧ Own (w.heap.size + 1) wr tv (lz l) ∧ w.heap.size + 1 ≤ wr.heap.size) (fun _ wr => s.size - rdAt g wr)
  case atStart =>
    have z := Zr.new (w.setCell ⟨g, 1, none⟩ (.int .i64 ((j + 1 : Nat) : Int)))
    have hsz : (w.setCell ⟨g, 1, none⟩ (.int .i64 ((j + 1 : Nat) : Int))).heap.size = w.heap.size := by simp [World.setCell]
    rw [hsz] at z
    exact ⟨j + 1, [], Nat.le_refl _, hj, Nat.zero_le _, (h.set (j + 1)).alloc _, Qv.start s j, z, (But.set _ _ _ _).alloc _, Own.nil _ _, by simp [World.setCell]⟩
  case round =>
    obtain ⟨k, l, hk1, hk, hl, hr, q, z, hb, ho, hz⟩ := hrel
    have hgB : g < w.heap.size + 1 := by omega
    have hm := hr.at
    have H := HC.out k wr hr hk
    clear k0 kf h
    cases g1 : got (isB 39) s k with
    | true =>
      rw [g1, Bool.true_and, if_pos rfl] at H
      have hlt := got_lt g1
      cases g2 : got (isB 39) s (k + 1) with
      | false =>
        rw [g2, Bool.not_false] at H
        have hR := H1.out k l q g1 g2
        replace H : Hid _ := H
        clear HC HT H1 H2 g1 g2 q
        by_cases h30 : 30 < l.length
        · rw [if_pos h30] at hR
          subst hR
          have g3 : decide ((30 : Int) < (l.length : Int)) = true := by simp; omega
          go_wp2_with fail
          refine Calls.mono H.out ?_
          rintro e w1 ⟨rfl, hr1, hb1⟩
          have z1 := z.but hb1 (by omega)
          replace ho := ho.but hb1 (by omega)
          replace hb := hb.trans hb1
          obtain ⟨ao, c, hv, hrd⟩ := ho.rd
          rw [lz_len] at hv hrd
          subst hv
          obtain ⟨c0, c1, c2, c3⟩ := z1.cells
          obtain ⟨f0, f1, f2, f3⟩ := z1.free
          clear H hb1 hr z hm
          go_wp2
          all_goals refine bodyPost_ret (v := wrA (flt j 7)) (by simp [results, Tryz.results75, go_sem, c0, c1, c2, c3, wrA, tkA, flt]) rfl ⟨rfl, hb.new4 (Nat.le_refl _) _ _ _ _, fun k => by simp [flt] at k⟩
        · rw [if_neg h30] at hR
          subst hR
          have g3 : decide ((30 : Int) < (l.length : Int)) = false := by simp; omega
          go_wp2_with fail
          refine Calls.mono H.out ?_
          rintro e w1 ⟨rfl, hr1, hb1⟩
          have z1 := z.but hb1 (by omega)
          replace ho := ho.but hb1 (by omega)
          replace hb := hb.trans hb1
          obtain ⟨ao, c, hv, hrd⟩ := ho.rd
          have hcv := conv_all hrd
          rw [lz_len] at hv hrd hcv
          rw [lz_str] at hcv
          subst hv
          obtain ⟨c0, c1, c2, c3⟩ := z1.cells
          obtain ⟨f0, f1, f2, f3⟩ := z1.free
          clear H hb1 hr z hm
          go_wp2
          all_goals refine bodyPost_ret (v := wrA (wrd (4, ⟨l.toArray⟩, 0, j) (k + 1))) (by simp [results, Tryz.results75, go_sem, c0, c1, c2, c3, wrA, tkA, wrd]) rfl ⟨rfl, hb.new4 (Nat.le_refl _) _ _ _ _, fun _ => hr1.other4 (by omega) _ _ _ _⟩
      | true =>
        rw [g2, Bool.not_true] at H
        obtain ⟨m, hmk⟩ : ∃ m, m = k + 1 := ⟨_, rfl⟩
        rw [← hmk] at H g2
        have hlt2 := got_lt g2
        have g3 : got isT s m = true := by
          obtain ⟨_, e⟩ := got39 g2
          rw [got_at hlt2, isT, e]; rfl
        have HQ := q.two' hmk hlt2 g1 g2
        replace hmk : Hid _ := hmk
        have hkm : k < m := by have := hmk.out; omega
        have hlm : l.length ≤ m := by omega
        replace H : Hid _ := H
        clear HC H1 H2 g1 g2 q
        go_wp2_with fail
        refine Calls.mono H.out ?_
        rintro e w1 ⟨rfl, hr1, hb1⟩
        have z1 := z.but hb1 (by omega)
        replace ho := ho.but hb1 (by omega)
        replace hb := hb.trans hb1
        replace hz := Nat.le_trans hz hb1.size
        clear H hb1 hr z
        have H := HT.out m w1 hr1 (by omega)
        rw [g3, if_pos rfl] at H
        replace H : Hid _ := H
        clear HT g3
        go_wp2_with fail
        refine Calls.mono H.out ?_
        rintro e w2 ⟨rfl, hr2, hb2⟩
        have z2 := z1.but hb2 (by omega)
        replace ho := ho.but hb2 (by omega)
        replace hb := hb.trans hb2
        replace hz := Nat.le_trans hz hb2.size
        clear H hb2 hr1 z1
        have k0 := hr2.c0
        have k1 := hr2.c1
        have hm2 := hr2.at
        have hD : Below w2.heap.size w2 w2.drew := (Below.refl _ _).drew
        have hDa : Below w2.heap.size w2 (w2.drew.alloc (.cells #[.int .u8 (s[m].toNat : Int)] 5)) := hD.alloc (Nat.le_refl _) _
        have hOd : Own (w.heap.size + 1) (w2.drew.alloc (.cells #[.int .u8 (s[m].toNat : Int)] 5)) u6 (lz l) := (ho.drew).alloc _
        have hl2 := lz_len l
        have hsb := SrcB.one w2.drew (s[m].toNat : Int)
        have hwr : IntKind.i64.wrap (m : Int) = m := by rw [IntKind.wrap_i64]; omega
        go_wp2
        go_region_held3 (fun w' => w'.cell? ⟨g, 0, none⟩ = some (.string s) ∧ w'.cell? ⟨g, 1, none⟩ = some (.int .i64 ((m + 1 : Nat) : Int))) (first | exact ⟨k0, k1⟩ | exact ⟨cell_later hDa k0, cell_later hDa k1⟩ | exact ⟨(hb4.cell (p := ⟨g, 0, none⟩) hgB).trans (cell_later hDa k0), (hb4.cell (p := ⟨g, 1, none⟩) hgB).trans (cell_later hDa k1)⟩ | go_keep)
          ((refine step_appB (by rfl) (.tmp 29) (.tmp 40) 35 (by rfl) (w.heap.size + 1) u6 _ (lz l) [(s[m].toNat : Int)] (by rfl) (by rfl) hOd hsb (by rw [hl2]; simp; omega) (by simp; omega) ?_; intro v4 w4 hO4 hb4))
        all_goals
          go_wp2
          go_roundw
        case rel =>
          have hr4 := (hr2.later hDa).below hb4 hgB
          have z4 := (z2.later hDa).below hb4 (Nat.lt_succ_self _)
          have hB4 := (hb.trans (But.of hDa)).upto hb4 (Nat.le_succ _)
          exact ⟨m + 1, l ++ [s[m]], by omega, by omega, by simp; omega, hr4, HQ, z4, hB4, by rw [lz_snoc]; exact hO4, Nat.le_trans (Nat.le_trans hz hDa.size) hb4.size⟩
        case measure =>
          have hr4 := ((hr2.later hDa).below hb4 hgB).at
          omega
    | false =>
      rw [g1, Bool.false_and, if_neg (by simp)] at H
      cases g3 : got isT s k with
      | true =>
        have hlt := got_lt g3
        have HQ := q.txt hlt g1 g3
        replace H : Hid _ := H
        clear HC H1 H2 g1 q
        go_wp2_with fail
        refine Calls.mono H.out ?_
        rintro e w1 ⟨rfl, hr1, hb1⟩
        have z1 := z.but hb1 (by omega)
        replace ho := ho.but hb1 (by omega)
        replace hb := hb.trans hb1
        replace hz := Nat.le_trans hz hb1.size
        clear H hb1 hr z
        have H := HT.out k w1 hr1 (by omega)
        rw [g3, if_pos rfl] at H
        replace H : Hid _ := H
        clear HT g3
        go_wp2_with fail
        refine Calls.mono H.out ?_
        rintro e w2 ⟨rfl, hr2, hb2⟩
        have z2 := z1.but hb2 (by omega)
        replace ho := ho.but hb2 (by omega)
        replace hb := hb.trans hb2
        replace hz := Nat.le_trans hz hb2.size
        clear H hb2 hr1 z1
        have k0 := hr2.c0
        have k1 := hr2.c1
        have hm2 := hr2.at
        have hD : Below w2.heap.size w2 w2.drew := (Below.refl _ _).drew
        have hDa : Below w2.heap.size w2 (w2.drew.alloc (.cells #[.int .u8 (s[k].toNat : Int)] 5)) := hD.alloc (Nat.le_refl _) _
        have hOd : Own (w.heap.size + 1) (w2.drew.alloc (.cells #[.int .u8 (s[k].toNat : Int)] 5)) u6 (lz l) := (ho.drew).alloc _
        have hl2 := lz_len l
        have hsb := SrcB.one w2.drew (s[k].toNat : Int)
        have hwr : IntKind.i64.wrap (k : Int) = k := by rw [IntKind.wrap_i64]; omega
        go_wp2
        go_region_held3 (fun w' => w'.cell? ⟨g, 0, none⟩ = some (.string s) ∧ w'.cell? ⟨g, 1, none⟩ = some (.int .i64 ((k + 1 : Nat) : Int))) (first | exact ⟨k0, k1⟩ | exact ⟨cell_later hDa k0, cell_later hDa k1⟩ | exact ⟨(hb4.cell (p := ⟨g, 0, none⟩) hgB).trans (cell_later hDa k0), (hb4.cell (p := ⟨g, 1, none⟩) hgB).trans (cell_later hDa k1)⟩ | go_keep)
          ((refine step_appB (by rfl) (.tmp 29) (.tmp 40) 35 (by rfl) (w.heap.size + 1) u6 _ (lz l) [(s[k].toNat : Int)] (by rfl) (by rfl) hOd hsb (by rw [hl2]; simp; omega) (by simp; omega) ?_; intro v4 w4 hO4 hb4))
        all_goals
          go_wp2
          go_roundw
        case rel =>
          have hr4 := (hr2.later hDa).below hb4 hgB
          have z4 := (z2.later hDa).below hb4 (Nat.lt_succ_self _)
          have hB4 := (hb.trans (But.of hDa)).upto hb4 (Nat.le_succ _)
          exact ⟨k + 1, l ++ [s[k]], by omega, by omega, by simp; omega, hr4, HQ, z4, hB4, by rw [lz_snoc]; exact hO4, Nat.le_trans (Nat.le_trans hz hDa.size) hb4.size⟩
        case measure =>
          have hr4 := ((hr2.later hDa).below hb4 hgB).at
          omega
      | false =>
        have hR := H2.out k l q g1 g3
        subst hR
        replace H : Hid _ := H
        clear HC H1 H2 g1 q
        go_wp2_with fail
        refine Calls.mono H.out ?_
        rintro e w1 ⟨rfl, hr1, hb1⟩
        have z1 := z.but hb1 (by omega)
        replace hb := hb.trans hb1
        clear H hb1 hr z ho
        have H := HT.out k w1 hr1 (by omega)
        rw [g3, if_neg (by simp)] at H
        replace H : Hid _ := H
        clear HT g3
        go_wp2_with fail
        refine Calls.mono H.out ?_
        rintro e w2 ⟨rfl, hr2, hb2⟩
        have z2 := z1.but hb2 (by omega)
        replace hb := hb.trans hb2
        have k1 := hr2.c1
        obtain ⟨c0, c1, c2, c3⟩ := z2.cells
        obtain ⟨f0, f1, f2, f3⟩ := z2.free
        clear H hb2 hr1 z1
        go_wp2
        go_region
        all_goals go_wp2
        all_goals refine bodyPost_ret (v := wrA (flt k 4)) (by simp [results, Tryz.results75, go_sem, c0, c1, c2, c3, wrA, tkA, flt]) rfl ⟨rfl, (hb.new4 (Nat.le_refl _) _ _ _ _).rdrew 1, fun k => by simp [flt] at k⟩

end Go.Proofs.YtjlmcnbmhgabpaaGreat
