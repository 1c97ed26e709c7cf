import Derived.Test.YtnlaaejdianfjabGreatQpag
import Derived.Test.YtnlaaejdianfjabGreatQpab
namespace Go.Proofs.YtnlaaejdianfjabGreat
open Go.RowKit
set_option linter.unusedVariables false
set_option linter.unusedSimpArgs false

/-- A row, by its head. -/
def eRow : Ek (List Vt) := ⟨1, fun Q w V cs => ∃ a n c, cs = [.slice a n c] ∧ RowIs eVal Q w (.slice a n c) V,
  fun hk ⟨a, n, c, h1, h2⟩ => ⟨a, n, c, h1, h2.keep (by decide) hk⟩, fun hk ⟨a, n, c, h1, h2⟩ => ⟨a, n, c, h1, h2.mono (by decide) hk⟩⟩
theorem row1 {Q : Nat → Prop} {w : World} {a : Option Addr} {n c : Nat} {l : List (List Vt)} (h : RowIs eRow Q w (.slice a n c) l) {k : Nat} (hk : k < l.length) : ∃ b o ra rn rc, a = some ⟨b, o, none⟩ ∧ Q b ∧ w.cell? ⟨b, o + k, none⟩ = some (.slice ra rn rc) ∧ RowIs eVal Q w (.slice ra rn rc) l[k] := by
  obtain ⟨_, _, _, e, h1, h2, h3, h4⟩ := h
  cases e
  obtain ⟨b, o, e, hq, hi⟩ := h4 (by omega)
  obtain ⟨cs, ⟨ra, rn, rc, rfl, hr⟩, hl, hc⟩ := hi k hk
  refine ⟨b, o, ra, rn, rc, e, hq, ?_, hr⟩
  have := hc 0 (show 0 < 1 by decide)
  simpa [eRow] using this
theorem runV_eqN (k i : Int) (s : ByteArray) (w : World) :
    (binOp .neq 39 (.agg #[.int .i64 k, .int .i64 i, .string s]) (.agg #[.int .i64 k, .int .i64 i, .string s])).run Tryz.prog w = .ok (.bool false) w := by
  go_simp
theorem runV_neN {k i : Int} {s : ByteArray} {k' i' : Int} {s' : ByteArray} (h : ¬ (k = k' ∧ i = i' ∧ s = s')) (w : World) :
    (binOp .neq 39 (.agg #[.int .i64 k, .int .i64 i, .string s]) (.agg #[.int .i64 k', .int .i64 i', .string s'])).run Tryz.prog w = .ok (.bool true) w := by
  by_cases h1 : k = k'
  · by_cases h2 : i = i'
    · have h3 : (s.toList == s'.toList) = false := by
        rw [same_nums, decide_eq_false_iff_not]
        intro e
        exact h ⟨h1, h2, nums_inj (lexI_zero e)⟩
      subst h1 h2
      go_simp
    · have h3 : (i == i') = false := by simpa using h2
      have h4 : decide (i = i') = false := by simpa using h2
      subst h1
      go_simp
  · have h3 : (k == k') = false := by simpa using h1
    have h4 : decide (k = k') = false := by simpa using h1
    go_simp
theorem wrapS {k n c : Nat} (h : k < n) (h2 : n ≤ c) (h3 : c ≤ 9223372036854775807) : IntKind.i64.wrap ((k : Int) + 1) = (k : Int) + 1 := by
  show (if (true && decide (((k : Int) + 1) % (2 ^ 64 : Int) ≥ (2 ^ (64 - 1) : Int))) = true then ((k : Int) + 1) % (2 ^ 64 : Int) - (2 ^ 64 : Int) else ((k : Int) + 1) % (2 ^ 64 : Int)) = _
  rw [if_neg (by simp; omega)]
  omega
theorem eq_upto {α : Type} {l m : List α} (hl : l.length = m.length) (h : ∀ i (h1 : i < l.length) (h2 : i < m.length), l[i] = m[i]) : l = m := List.ext_getElem hl h
set_option maxRecDepth 100000 in
set_option maxHeartbeats 4000000 in
theorem sameRow_any {U V : List Vt} {Q1 Q2 : Nat → Prop} {w : World} {a1 : Option Addr} {n1 c1 : Nat} {a2 : Option Addr} {n2 c2 : Nat} (h1 : RowIs eVal Q1 w (.slice a1 n1 c1) U) (h2 : RowIs eVal Q2 w (.slice a2 n2 c2) V) :
    Calls Tryz.prog 19 #[.slice a1 n1 c1, .slice a2 n2 c2] w fun e w' => e = .returned (.bool (decide (U = V))) ∧ Below w.heap.size w w' := by
  obtain ⟨l1, l2, l3⟩ := row_lens h1
  obtain ⟨m1, m2, m3⟩ := row_lens h2
  have HR1 : Hid (∀ w', Below w.heap.size w w' → RowIs eVal Q1 w' (.slice a1 n1 c1) U) := hid fun w' hb => h1.keep (by decide) fun b _ hl => hb.block b hl
  have HR2 : Hid (∀ w', Below w.heap.size w w' → RowIs eVal Q2 w' (.slice a2 n2 c2) V) := hid fun w' hb => h2.keep (by decide) fun b _ hl => hb.block b hl
  clear h1 h2
  obtain ⟨T, hT⟩ : ∃ T, decide (U = V) = T := ⟨_, rfl⟩
  have HT : Hid _ := hid hT
  rw [hT]
  clear hT
  by_cases hn : n1 = n2
  · subst hn
    go_enter Tryz.func19, Tryz.ntmps19
    go_wp2
    go_loopw [5] (fun v5 wr => ∃ k : Nat, k ≤ n1 ∧ v5 = .int .i64 k ∧ Below w.heap.size w wr ∧ Hid (∀ i (h1 : i < U.length) (h2 : i < V.length), i < k → U[i] = V[i])) (fun i _ => n1 - (intOf i).toNat)
    case atStart => exact ⟨0, Nat.zero_le _, rfl, Below.refl _ _, hid fun i h1 h2 h3 => absurd h3 (by omega)⟩
    case round =>
      obtain ⟨k, hk, rfl, hB, HD⟩ := hrel
      by_cases hlt : k < n1
      · obtain ⟨b, o, rfl, -, x0, x1, x2⟩ := val1 (HR1.out wr hB) (k := k) (by omega)
        obtain ⟨b', o', rfl, -, y0, y1, y2⟩ := val1 (HR2.out wr hB) (k := k) (by omega)
        obtain ⟨X, hX⟩ : ∃ x, U[k]'(by omega) = x := ⟨_, rfl⟩
        obtain ⟨Y, hY⟩ : ∃ x, V[k]'(by omega) = x := ⟨_, rfl⟩
        rw [hX] at x0 x1 x2
        rw [hY] at y0 y1 y2
        have HX : Hid _ := hid hX
        have HY : Hid _ := hid hY
        have hkm : (k : Int) < (n1 : Int) := by omega
        have hwk := wrapS hlt l2 l3
        clear hX hY
        by_cases he : X = Y
        · subst he
          have HN : Hid (∀ i (h1 : i < U.length) (h2 : i < V.length), i < k + 1 → U[i] = V[i]) := hid fun i h1 h2 h3 => by
            by_cases hi : i < k
            · exact HD.out i h1 h2 hi
            · obtain rfl : i = k := by omega
              rw [HX.out, HY.out]
          obtain ⟨X0, X1, X2⟩ := X
          dsimp only at *
          have hrq := fun w => runV_eqN X0 X1 X2 w
          clear HD
          go_wp2
          go_quiet (fail)
          have hB2 := below_drewN hB nq
          generalize wr.drewN nq = W at *
          clear hB
          go_wp2
          go_roundw
          case rel => exact ⟨k + 1, by omega, by go_num, hB2, HN⟩
          case measure => simp only [intOf]; omega
        · have HF : Hid (T = false) := hid (by
            rw [← HT.out, decide_eq_false_iff_not]
            intro h
            subst h
            exact he (HX.out.symm.trans HY.out))
          obtain ⟨X0, X1, X2⟩ := X
          obtain ⟨Y0, Y1, Y2⟩ := Y
          dsimp only at *
          have hrq := fun w => runV_neN (k := X0) (i := X1) (s := X2) (k' := Y0) (i' := Y1) (s' := Y2) (fun h => he (by rw [h.1, h.2.1, h.2.2])) w
          clear HD HX HY
          go_wp2
          go_quiet (fail)
          have hB2 := below_drewN hB nq
          generalize wr.drewN nq = W at *
          clear hB
          go_wp2
          go_ret
          exact ⟨ret_bool HF.out.symm, hB2⟩
      · obtain rfl : k = n1 := by omega
        have HF : Hid (T = true) := hid (by
          rw [← HT.out, decide_eq_true_eq]
          exact eq_upto (by omega) fun i h1 h2 => HD.out i h1 h2 (by omega))
        clear HD
        go_wp2
        go_ret
        exact ⟨ret_bool HF.out.symm, hB⟩
  · have g1 : ((n1 : Int) != (n2 : Int)) = true := by simp; omega
    have g2 : decide ((n1 : Int) = (n2 : Int)) = false := by simp; omega
    have HF : Hid (T = false) := hid (by
      rw [← HT.out, decide_eq_false_iff_not]
      intro h
      subst h
      omega)
    go_enter Tryz.func19, Tryz.ntmps19
    go_wp2
    go_ret
    exact ⟨ret_bool HF.out.symm, Below.refl _ _⟩

set_option maxRecDepth 100000 in
set_option maxHeartbeats 4000000 in
theorem sameRows_any {U V : List (List Vt)} {Q1 Q2 : Nat → Prop} {w : World} {a1 : Option Addr} {n1 c1 : Nat} {a2 : Option Addr} {n2 c2 : Nat} (h1 : RowIs eRow Q1 w (.slice a1 n1 c1) U) (h2 : RowIs eRow Q2 w (.slice a2 n2 c2) V) :
    Calls Tryz.prog 8 #[.slice a1 n1 c1, .slice a2 n2 c2] w fun e w' => e = .returned (.bool (decide (U = V))) ∧ Below w.heap.size w w' := by
  obtain ⟨l1, l2, l3⟩ := row_lens h1
  obtain ⟨m1, m2, m3⟩ := row_lens h2
  have HR1 : Hid (∀ w', Below w.heap.size w w' → RowIs eRow Q1 w' (.slice a1 n1 c1) U) := hid fun w' hb => h1.keep (by decide) fun b _ hl => hb.block b hl
  have HR2 : Hid (∀ w', Below w.heap.size w w' → RowIs eRow Q2 w' (.slice a2 n2 c2) V) := hid fun w' hb => h2.keep (by decide) fun b _ hl => hb.block b hl
  clear h1 h2
  obtain ⟨T, hT⟩ : ∃ T, decide (U = V) = T := ⟨_, rfl⟩
  have HT : Hid _ := hid hT
  rw [hT]
  clear hT
  by_cases hn : n1 = n2
  · subst hn
    go_enter Tryz.func8, Tryz.ntmps8
    go_wp2
    go_loopw [5] (fun v5 wr => ∃ k : Nat, k ≤ n1 ∧ v5 = .int .i64 k ∧ Below w.heap.size w wr ∧ Hid (∀ i (h1 : i < U.length) (h2 : i < V.length), i < k → U[i] = V[i])) (fun i _ => n1 - (intOf i).toNat)
    case atStart => exact ⟨0, Nat.zero_le _, rfl, Below.refl _ _, hid fun i h1 h2 h3 => absurd h3 (by omega)⟩
    case round =>
      obtain ⟨k, hk, rfl, hB, HD⟩ := hrel
      by_cases hlt : k < n1
      · obtain ⟨b, o, xa, xn, xc, rfl, -, x0, rx⟩ := row1 (HR1.out wr hB) (k := k) (by omega)
        obtain ⟨b', o', ya, yn, yc, rfl, -, y0, ry⟩ := row1 (HR2.out wr hB) (k := k) (by omega)
        obtain ⟨X, hX⟩ : ∃ x, U[k]'(by omega) = x := ⟨_, rfl⟩
        obtain ⟨Y, hY⟩ : ∃ x, V[k]'(by omega) = x := ⟨_, rfl⟩
        rw [hX] at rx
        rw [hY] at ry
        have HX : Hid _ := hid hX
        have HY : Hid _ := hid hY
        have HS : Hid (∀ w', Below wr.heap.size wr w' → _) := hid fun w' hb => sameRow_any (rx.keep (w' := w') (by decide) fun b _ hl => hb.block b hl) (ry.keep (by decide) fun b _ hl => hb.block b hl)
        have hkm : (k : Int) < (n1 : Int) := by omega
        have hwk := wrapS hlt l2 l3
        clear hX hY rx ry
        by_cases he : X = Y
        · have HN : Hid (∀ i (h1 : i < U.length) (h2 : i < V.length), i < k + 1 → U[i] = V[i]) := hid fun i h1 h2 h3 => by
            by_cases hi : i < k
            · exact HD.out i h1 h2 hi
            · obtain rfl : i = k := by omega
              rw [HX.out, HY.out, he]
          rw [show decide (X = Y) = true from by simpa using he] at HS
          clear HD
          go_upto_region 6 with fail
          have hY : Below wr.heap.size wr wr.drew := (Below.refl _ wr).drew
          refine wp_region_held_drew (S := fun w' => w'.cell? ⟨b, o + k, none⟩ = some (.slice xa xn xc) ∧ w'.cell? ⟨b', o' + k, none⟩ = some (.slice ya yn yc)) (by kernel_rfl) (⟨cell_later hY x0, cell_later hY y0⟩) (fun hHeld => ?_)
          generalize wr.drew = y at *
          refine wpAnyH_take (i := 0) (v := ?tv2001) rfl (by kernel_rfl) (by kernel_rfl) (by kernel_rfl) (fun _ _ _ h => h) (Or.inl ⟨by rfl, ?hy2001⟩) (by assumption) ?rs2001
          case hy2001 => (intro w9 hSw; (try dsimp only at hSw); go_simp; (try with_reducible rfl))
          (try simp only [Act.put, List.getElem_toArray, List.getElem_cons_zero, List.getElem_cons_succ, List.setIfInBounds_toArray, List.set_cons_zero, List.set_cons_succ])
          refine wpAnyH_take (i := 1) (v := ?tv2002) rfl (by kernel_rfl) (by kernel_rfl) (by kernel_rfl) (fun _ _ _ h => h) (Or.inl ⟨by rfl, ?hy2002⟩) (by assumption) ?rs2002
          case hy2002 => (intro w9 hSw; (try dsimp only at hSw); go_simp; (try with_reducible rfl))
          (try simp only [Act.put, List.getElem_toArray, List.getElem_cons_zero, List.getElem_cons_succ, List.setIfInBounds_toArray, List.set_cons_zero, List.set_cons_succ])
          refine wpAnyH_take (i := 2) (v := ?tv2003) rfl (by kernel_rfl) (by kernel_rfl) (by kernel_rfl) (fun _ _ _ h => h) (Or.inl ⟨by rfl, ?hy2003⟩) (by assumption) ?rs2003
          case hy2003 => (intro w9 hSw; (try dsimp only at hSw); go_simp; (try with_reducible rfl))
          (try simp only [Act.put, List.getElem_toArray, List.getElem_cons_zero, List.getElem_cons_succ, List.setIfInBounds_toArray, List.set_cons_zero, List.set_cons_succ])
          refine wpAnyH_take (i := 3) (v := ?tv2004) rfl (by kernel_rfl) (by kernel_rfl) (by kernel_rfl) (fun _ _ _ h => h) (Or.inl ⟨by rfl, ?hy2004⟩) (by assumption) ?rs2004
          case hy2004 => (intro w9 hSw; (try dsimp only at hSw); go_simp; (try with_reducible rfl))
          (try simp only [Act.put, List.getElem_toArray, List.getElem_cons_zero, List.getElem_cons_succ, List.setIfInBounds_toArray, List.set_cons_zero, List.set_cons_succ])
          refine wpAnyH_take (i := 4) (v := ?tv2005) rfl (by kernel_rfl) (by kernel_rfl) (by kernel_rfl) (fun _ _ _ h => h) (Or.inl ⟨by rfl, ?hy2005⟩) (by assumption) ?rs2005
          case hy2005 => (intro w9 hSw; (try dsimp only at hSw); go_simp; (try with_reducible rfl))
          (try simp only [Act.put, List.getElem_toArray, List.getElem_cons_zero, List.getElem_cons_succ, List.setIfInBounds_toArray, List.set_cons_zero, List.set_cons_succ])
          refine wpAnyH_take (i := 5) (v := ?tv2006) rfl (by kernel_rfl) (by kernel_rfl) (by kernel_rfl) (fun _ _ _ h => h) (Or.inl ⟨by rfl, ?hy2006⟩) (by assumption) ?rs2006
          case hy2006 => (intro w9 hSw; (try dsimp only at hSw); go_simp; (try with_reducible rfl))
          (try simp only [Act.put, List.getElem_toArray, List.getElem_cons_zero, List.getElem_cons_succ, List.setIfInBounds_toArray, List.set_cons_zero, List.set_cons_succ])
          refine wpAnyH_take (i := 6) (v := ?tv2007) rfl (by kernel_rfl) (by kernel_rfl) (by kernel_rfl) (fun _ _ _ h => h) (Or.inl ⟨by rfl, ?hy2007⟩) (by assumption) ?rs2007
          case hy2007 => (intro w9 hSw; (try dsimp only at hSw); go_simp; (try with_reducible rfl))
          (try simp only [Act.put, List.getElem_toArray, List.getElem_cons_zero, List.getElem_cons_succ, List.setIfInBounds_toArray, List.set_cons_zero, List.set_cons_succ])
          refine wpAnyH_take (i := 7) (v := ?tv2008) rfl (by kernel_rfl) (by kernel_rfl) (by kernel_rfl) (fun _ _ _ h => h) (Or.inl ⟨by rfl, ?hy2008⟩) (by assumption) ?rs2008
          case hy2008 => (intro w9 hSw; (try dsimp only at hSw); go_simp; (try with_reducible rfl))
          (try simp only [Act.put, List.getElem_toArray, List.getElem_cons_zero, List.getElem_cons_succ, List.setIfInBounds_toArray, List.set_cons_zero, List.set_cons_succ])
          refine wpAnyH_ready (rs := [8]) (by kernel_rfl) (by simp) ?_
          refine AllReadyH.cons rfl (fun K hK => ?_) AllReadyH.nil
          go_simp
          go_wp2_with (first | (go_at_call 19; (refine Calls.mono (HS.out _ hY) ?_); rintro e y1 ⟨rfl, hby⟩))
          replace hY := Below.on hY hby
          refine hK.out _ _ (⟨cell_later hY x0, cell_later hY y0⟩) (fun hHeld => ?_)
          clear hK K hby
          (try simp only [Act.put, List.getElem_toArray, List.getElem_cons_zero, List.getElem_cons_succ, List.setIfInBounds_toArray, List.set_cons_zero, List.set_cons_succ])
          refine wpAnyH_take (i := 9) (v := ?tv2009) rfl (by kernel_rfl) (by kernel_rfl) (by kernel_rfl) (fun _ _ _ h => h) (Or.inl ⟨by rfl, ?hy2009⟩) (by assumption) ?rs2009
          case hy2009 => (intro w9 hSw; (try dsimp only at hSw); go_simp; (try with_reducible rfl))
          (try simp only [Act.put, List.getElem_toArray, List.getElem_cons_zero, List.getElem_cons_succ, List.setIfInBounds_toArray, List.set_cons_zero, List.set_cons_succ])
          refine wpAnyH_done (by kernel_rfl) ?_ _
          clear hHeld
          replace hB := Below.on hB hY
          go_wp2
          go_roundw
          case rel => exact ⟨k + 1, by omega, by go_num, hB, HN⟩
          case measure => simp only [intOf]; omega
        · have HF : Hid (T = false) := hid (by
            rw [← HT.out, decide_eq_false_iff_not]
            intro h
            subst h
            exact he (HX.out.symm.trans HY.out))
          rw [show decide (X = Y) = false from by simpa using he] at HS
          clear HD HX HY
          go_upto_region 6 with fail
          have hY : Below wr.heap.size wr wr.drew := (Below.refl _ wr).drew
          refine wp_region_held_drew (S := fun w' => w'.cell? ⟨b, o + k, none⟩ = some (.slice xa xn xc) ∧ w'.cell? ⟨b', o' + k, none⟩ = some (.slice ya yn yc)) (by kernel_rfl) (⟨cell_later hY x0, cell_later hY y0⟩) (fun hHeld => ?_)
          generalize wr.drew = y at *
          refine wpAnyH_take (i := 0) (v := ?tv2010) rfl (by kernel_rfl) (by kernel_rfl) (by kernel_rfl) (fun _ _ _ h => h) (Or.inl ⟨by rfl, ?hy2010⟩) (by assumption) ?rs2010
          case hy2010 => (intro w9 hSw; (try dsimp only at hSw); go_simp; (try with_reducible rfl))
          (try simp only [Act.put, List.getElem_toArray, List.getElem_cons_zero, List.getElem_cons_succ, List.setIfInBounds_toArray, List.set_cons_zero, List.set_cons_succ])
          refine wpAnyH_take (i := 1) (v := ?tv2011) rfl (by kernel_rfl) (by kernel_rfl) (by kernel_rfl) (fun _ _ _ h => h) (Or.inl ⟨by rfl, ?hy2011⟩) (by assumption) ?rs2011
          case hy2011 => (intro w9 hSw; (try dsimp only at hSw); go_simp; (try with_reducible rfl))
          (try simp only [Act.put, List.getElem_toArray, List.getElem_cons_zero, List.getElem_cons_succ, List.setIfInBounds_toArray, List.set_cons_zero, List.set_cons_succ])
          refine wpAnyH_take (i := 2) (v := ?tv2012) rfl (by kernel_rfl) (by kernel_rfl) (by kernel_rfl) (fun _ _ _ h => h) (Or.inl ⟨by rfl, ?hy2012⟩) (by assumption) ?rs2012
          case hy2012 => (intro w9 hSw; (try dsimp only at hSw); go_simp; (try with_reducible rfl))
          (try simp only [Act.put, List.getElem_toArray, List.getElem_cons_zero, List.getElem_cons_succ, List.setIfInBounds_toArray, List.set_cons_zero, List.set_cons_succ])
          refine wpAnyH_take (i := 3) (v := ?tv2013) rfl (by kernel_rfl) (by kernel_rfl) (by kernel_rfl) (fun _ _ _ h => h) (Or.inl ⟨by rfl, ?hy2013⟩) (by assumption) ?rs2013
          case hy2013 => (intro w9 hSw; (try dsimp only at hSw); go_simp; (try with_reducible rfl))
          (try simp only [Act.put, List.getElem_toArray, List.getElem_cons_zero, List.getElem_cons_succ, List.setIfInBounds_toArray, List.set_cons_zero, List.set_cons_succ])
          refine wpAnyH_take (i := 4) (v := ?tv2014) rfl (by kernel_rfl) (by kernel_rfl) (by kernel_rfl) (fun _ _ _ h => h) (Or.inl ⟨by rfl, ?hy2014⟩) (by assumption) ?rs2014
          case hy2014 => (intro w9 hSw; (try dsimp only at hSw); go_simp; (try with_reducible rfl))
          (try simp only [Act.put, List.getElem_toArray, List.getElem_cons_zero, List.getElem_cons_succ, List.setIfInBounds_toArray, List.set_cons_zero, List.set_cons_succ])
          refine wpAnyH_take (i := 5) (v := ?tv2015) rfl (by kernel_rfl) (by kernel_rfl) (by kernel_rfl) (fun _ _ _ h => h) (Or.inl ⟨by rfl, ?hy2015⟩) (by assumption) ?rs2015
          case hy2015 => (intro w9 hSw; (try dsimp only at hSw); go_simp; (try with_reducible rfl))
          (try simp only [Act.put, List.getElem_toArray, List.getElem_cons_zero, List.getElem_cons_succ, List.setIfInBounds_toArray, List.set_cons_zero, List.set_cons_succ])
          refine wpAnyH_take (i := 6) (v := ?tv2016) rfl (by kernel_rfl) (by kernel_rfl) (by kernel_rfl) (fun _ _ _ h => h) (Or.inl ⟨by rfl, ?hy2016⟩) (by assumption) ?rs2016
          case hy2016 => (intro w9 hSw; (try dsimp only at hSw); go_simp; (try with_reducible rfl))
          (try simp only [Act.put, List.getElem_toArray, List.getElem_cons_zero, List.getElem_cons_succ, List.setIfInBounds_toArray, List.set_cons_zero, List.set_cons_succ])
          refine wpAnyH_take (i := 7) (v := ?tv2017) rfl (by kernel_rfl) (by kernel_rfl) (by kernel_rfl) (fun _ _ _ h => h) (Or.inl ⟨by rfl, ?hy2017⟩) (by assumption) ?rs2017
          case hy2017 => (intro w9 hSw; (try dsimp only at hSw); go_simp; (try with_reducible rfl))
          (try simp only [Act.put, List.getElem_toArray, List.getElem_cons_zero, List.getElem_cons_succ, List.setIfInBounds_toArray, List.set_cons_zero, List.set_cons_succ])
          refine wpAnyH_ready (rs := [8]) (by kernel_rfl) (by simp) ?_
          refine AllReadyH.cons rfl (fun K hK => ?_) AllReadyH.nil
          go_simp
          go_wp2_with (first | (go_at_call 19; (refine Calls.mono (HS.out _ hY) ?_); rintro e y1 ⟨rfl, hby⟩))
          replace hY := Below.on hY hby
          refine hK.out _ _ (⟨cell_later hY x0, cell_later hY y0⟩) (fun hHeld => ?_)
          clear hK K hby
          (try simp only [Act.put, List.getElem_toArray, List.getElem_cons_zero, List.getElem_cons_succ, List.setIfInBounds_toArray, List.set_cons_zero, List.set_cons_succ])
          refine wpAnyH_take (i := 9) (v := ?tv2018) rfl (by kernel_rfl) (by kernel_rfl) (by kernel_rfl) (fun _ _ _ h => h) (Or.inl ⟨by rfl, ?hy2018⟩) (by assumption) ?rs2018
          case hy2018 => (intro w9 hSw; (try dsimp only at hSw); go_simp; (try with_reducible rfl))
          (try simp only [Act.put, List.getElem_toArray, List.getElem_cons_zero, List.getElem_cons_succ, List.setIfInBounds_toArray, List.set_cons_zero, List.set_cons_succ])
          refine wpAnyH_done (by kernel_rfl) ?_ _
          clear hHeld
          replace hB := Below.on hB hY
          go_wp2
          go_ret
          exact ⟨ret_bool HF.out.symm, hB⟩
      · obtain rfl : k = n1 := by omega
        have HF : Hid (T = true) := hid (by
          rw [← HT.out, decide_eq_true_eq]
          exact eq_upto (by omega) fun i h1 h2 => HD.out i h1 h2 (by omega))
        clear HD
        go_wp2
        go_ret
        exact ⟨ret_bool HF.out.symm, hB⟩
  · have g1 : ((n1 : Int) != (n2 : Int)) = true := by simp; omega
    have g2 : decide ((n1 : Int) = (n2 : Int)) = false := by simp; omega
    have HF : Hid (T = false) := hid (by
      rw [← HT.out, decide_eq_false_iff_not]
      intro h
      subst h
      omega)
    go_enter Tryz.func8, Tryz.ntmps8
    go_wp2
    go_ret
    exact ⟨ret_bool HF.out.symm, Below.refl _ _⟩

end Go.Proofs.YtnlaaejdianfjabGreat
namespace Go.Proofs.YtnlaaejdianfjabGreat
open Go.RowKit
set_option linter.unusedVariables false

end Go.Proofs.YtnlaaejdianfjabGreat
namespace Go.Proofs.YtnlaaejdianfjabGreat
open Go.RowKit
set_option linter.unusedVariables false
set_option linter.unusedSimpArgs false

/-- Picks lie in block g; these numbers are left. -/
structure PkX (w : World) (g : Nat) (zs : List Nat) : Prop where
  on : ∃ a len cap n, Pq2 w g a len cap n ∧ n + zs.length = len ∧ len ≤ cap ∧ cap ≤ 9223372036854775807 ∧ (0 < zs.length → ∃ b o, a = some ⟨b, o, none⟩ ∧ b < g ∧ b < w.heap.size ∧ ∀ i (h : i < zs.length), zs[i] ≤ 255 ∧ w.cell? ⟨b, o + (n + i), none⟩ = some (.int .u8 (zs[i] : Int)))
theorem PkX.lt {w : World} {g : Nat} {zs : List Nat} (h : PkX w g zs) : g < w.heap.size := by
  obtain ⟨a, len, cap, n, hq, _⟩ := h.on
  exact hq.lt
theorem PkX.keep {w w' : World} {g : Nat} {zs : List Nat} (h : PkX w g zs) (hs : w.heap.size ≤ w'.heap.size) (hk : ∀ k, k ≤ g → w'.heap[k]? = w.heap[k]?) : PkX w' g zs := by
  obtain ⟨a, len, cap, n, hq, h1, h2, h3, h4⟩ := h.on
  refine ⟨a, len, cap, n, ⟨(hk g (Nat.le_refl _)).trans hq.row⟩, h1, h2, h3, fun hp => ?_⟩
  obtain ⟨b, o, ha, hb, hb2, hz⟩ := h4 hp
  exact ⟨b, o, ha, hb, by omega, fun i hi => ⟨(hz i hi).1, (World.cell?_of_block (a := ⟨b, _, none⟩) (hk b (by omega))).trans (hz i hi).2⟩⟩
theorem PkX.later {w w' : World} {g : Nat} {zs : List Nat} (h : PkX w g zs) (hb : Below w.heap.size w w') : PkX w' g zs := h.keep hb.size fun k hk => hb.block k (Nat.lt_of_le_of_lt hk h.lt)
theorem PkX.alloc {w : World} {g : Nat} {zs : List Nat} (h : PkX w g zs) (o : Obj) : PkX (w.alloc o) g zs := h.later ((Below.refl _ _).alloc (Nat.le_refl _) o)
theorem PkX.drewN {w : World} {g : Nat} {zs : List Nat} (h : PkX w g zs) (n : Nat) : PkX (w.drewN n) g zs := h.keep (Nat.le_refl _) fun _ _ => rfl
theorem PkX.other {w : World} {g : Nat} {zs : List Nat} (h : PkX w g zs) {b : Nat} (hb : g < b) (o : Nat) (v : Value) : PkX (w.setCell ⟨b, o, none⟩ v) g zs :=
  h.keep (by simp [World.setCell]) fun k hk => Below.heap_setCell _ _ _ _ (by show k ≠ b; omega)
theorem PkX.new3 {w : World} {g : Nat} {zs : List Nat} (h : PkX w g zs) {b : Nat} (hb : g < b) (x y z : Value) : PkX (((w.setCell ⟨b, 0, none⟩ x).setCell ⟨b, 1, none⟩ y).setCell ⟨b, 2, none⟩ z) g zs := ((h.other hb _ _).other hb _ _).other hb _ _
theorem PkX.grown {g : Nat} {zs : List Nat} {w3 w4 : World} {row : Option Nat} (h : PkX w3 g zs) (hg : w3.grownBy w4 row) (hrow : ∀ k, row = some k → g < k) : PkX w4 g zs :=
  h.keep hg.size fun k hk => hg.block k (Nat.lt_of_le_of_lt hk h.lt) fun e => by have := hrow k e.symm; omega
/-- What Num picks, below m. -/
def hdM (zs : List Nat) (m : Nat) : Nat := zs.headD 0 % m
theorem hdM_lt (zs : List Nat) {m : Nat} (h : 0 < m) : hdM zs m < m := Nat.mod_lt _ h
set_option maxRecDepth 100000 in
set_option maxHeartbeats 1000000 in
theorem numX_any {g : Nat} {zs : List Nat} {w : World} (h : PkX w g zs) (m : Nat) (hm : 0 < m) (hm2 : m ≤ 100) :
    Calls Tryz.prog 45 #[.pointer (some ⟨g, 0, none⟩), .int .i64 (m : Int)] w fun e w' => e = .returned (.int .i64 ((hdM zs m : Nat) : Int)) ∧ PkX w' g zs.tail ∧ But g w w' := by
  obtain ⟨a, len, cap, n, hq, h1, h2, h3, h4⟩ := h.on
  obtain ⟨c0, c1⟩ := hq.cells
  have f1 := hq.free
  have hgl := hq.lt
  cases zs with
  | nil =>
    obtain rfl : n = len := by simpa using h1
    have g1 : decide ((n : Int) ≤ (n : Int)) = true := by simp
    have HP : Hid _ := hid h
    clear h h4 h1 hq
    go_enter Tryz.func45, Tryz.ntmps45
    go_wp2
    go_quiet (fail)
    have HQ : Hid _ := hid (HP.out.drewN nq)
    have HB : Hid _ := hid ((But.refl g w).rdrew nq)
    clear HP
    generalize w.drewN nq = W at *
    go_wp2
    go_ret
    exact ⟨by show _ = Ending.returned (.int .i64 (((0 % m : Nat)) : Int)); rw [Nat.zero_mod]; rfl, HQ.out, HB.out⟩
  | cons z0n zs =>
    rw [List.length_cons] at h1
    have hlt : n < len := by omega
    have g1 : decide ((len : Int) ≤ (n : Int)) = false := by simp; omega
    obtain ⟨b, o, rfl, hbg, hbl, hz⟩ := h4 (by simp)
    have hz0 := hz 0 (by simp)
    simp only [List.getElem_cons_zero, Nat.add_zero] at hz0
    obtain ⟨z1n, hc⟩ := hz0
    obtain ⟨z, hzz⟩ : ∃ z : Int, (z0n : Int) = z := ⟨_, rfl⟩
    rw [hzz] at hc
    have z0 : 0 ≤ z := by omega
    have z1 : z ≤ 255 := by omega
    have HP : Hid (PkX (w.setCell ⟨g, 1, none⟩ (.int .i64 ((n + 1 : Nat) : Int))) g zs) := hid ⟨_, len, cap, n + 1, hq.set _, by omega, h2, h3, fun _ => ⟨b, o, rfl, hbg, by simpa [World.setCell] using hbl, fun i hi => by
      have hh := hz (i + 1) (by simpa using hi)
      simp only [List.getElem_cons_succ] at hh
      refine ⟨hh.1, ?_⟩
      rw [show o + (n + 1 + i) = o + (n + (i + 1)) from by omega]
      exact (World.cell?_of_block (a := ⟨b, _, none⟩) (Below.heap_setCell _ _ _ _ (by show b ≠ g; omega))).trans hh.2⟩⟩
    have hP2 := hq.set (n + 1)
    obtain ⟨d0, d1⟩ := hP2.cells
    have hc2 : (w.setCell ⟨g, 1, none⟩ (.int .i64 ((n + 1 : Nat) : Int))).cell? ⟨b, o + n, none⟩ = some (.int .u8 z) := (World.cell?_of_block (a := ⟨b, _, none⟩) (Below.heap_setCell _ _ _ _ (by show b ≠ g; omega))).trans hc
    have hbe : ((n + 1 : Nat) : Int) = (n : Int) + 1 := by omega
    have hB : But g w (w.setCell ⟨g, 1, none⟩ (.int .i64 ((n + 1 : Nat) : Int))) := But.set _ _ _ _
    rw [hbe] at d0 d1 hc2 HP hB
    have HZ : Hid _ := hid hzz
    clear h h4 hq hP2 hz hbe hzz
    go_enter Tryz.func45, Tryz.ntmps45
    go_wp2
    go_quiet (fail)
    obtain ⟨V, hV⟩ : ∃ V, w.drewN nq = V := ⟨_, rfl⟩
    have e0 : V.cell? ⟨g, 0, none⟩ = some (.slice (some ⟨b, o, none⟩) len cap) := by rw [← hV]; exact c0
    have e1 : V.cell? ⟨g, 1, none⟩ = some (.int .i64 n) := by rw [← hV]; exact c1
    have e2 : V.frozen? ⟨g, 1, none⟩ = false := by rw [← hV]; exact f1
    have e3 : V.heap.size = w.heap.size := by rw [← hV]; rfl
    have e4 : (V.setCell ⟨g, 1, none⟩ (.int .i64 ((n : Int) + 1))).cell? ⟨b, o + n, none⟩ = some (.int .u8 z) := by rw [← hV]; exact hc2
    have e5 : (V.setCell ⟨g, 1, none⟩ (.int .i64 ((n : Int) + 1))).cell? ⟨g, 0, none⟩ = some (.slice (some ⟨b, o, none⟩) len cap) := by rw [← hV]; exact d0
    have e6 : (V.setCell ⟨g, 1, none⟩ (.int .i64 ((n : Int) + 1))).cell? ⟨g, 1, none⟩ = some (.int .i64 ((n : Int) + 1)) := by rw [← hV]; exact d1
    have HQ : Hid (PkX (V.setCell ⟨g, 1, none⟩ (.int .i64 ((n : Int) + 1))) g zs) := hid (by rw [← hV]; exact HP.out.keep (Nat.le_refl _) fun _ _ => rfl)
    have HC : Hid (But g w (V.setCell ⟨g, 1, none⟩ (.int .i64 ((n : Int) + 1)))) := hid (by rw [← hV]; exact ⟨hB.os, hB.tape, hB.output, hB.size, hB.block⟩)
    clear c0 c1 f1 d0 d1 hc hc2 HP hB
    rw [hV]
    clear hV
    go_wp2
    obtain ⟨U, hU⟩ : ∃ U, V.setCell ⟨g, 1, none⟩ (.int .i64 ((n : Int) + 1)) = U := ⟨_, rfl⟩
    rw [hU] at e4 e5 e6 HQ HC ⊢
    clear hU e0 e1 e2 e3
    go_quiet (fail)
    have HQ2 : Hid _ := hid (HQ.out.drewN nq)
    have HC2 : Hid _ := hid (HC.out.rdrew nq)
    generalize U.drewN nq = T at *
    go_wp2
    go_ret
    have hmi : (0 : Int) < (m : Int) := by omega
    have hz0 : 0 ≤ z % (m : Int) := Int.emod_nonneg _ (by omega)
    have hz1 : z % (m : Int) < (m : Int) := Int.emod_lt_of_pos _ hmi
    refine ⟨?_, HQ2.out, HC2.out⟩
    show Ending.returned (.int .i64 (z % (m : Int))) = Ending.returned (.int .i64 (((z0n % m : Nat)) : Int))
    rw [← HZ.out, Int.natCast_emod]

set_option maxRecDepth 100000 in
set_option maxHeartbeats 1000000 in
theorem overX_any {g : Nat} {zs : List Nat} {w : World} (h : PkX w g zs) :
    Calls Tryz.prog 11 #[.pointer (some ⟨g, 0, none⟩)] w fun e w' => e = .returned (.bool (decide (zs = []))) ∧ PkX w' g zs ∧ But g w w' := by
  obtain ⟨a, len, cap, n, hq, h1, h2, h3, h4⟩ := h.on
  obtain ⟨c0, c1⟩ := hq.cells
  have hgl := hq.lt
  have HP : Hid _ := hid h
  have HD : Hid (decide (zs = []) = decide (len ≤ n)) := hid (by cases zs <;> simp at h1 ⊢ <;> omega)
  clear h h4 hq
  generalize decide (zs = []) = D at *
  go_enter Tryz.func11, Tryz.ntmps11
  go_wp2
  go_quiet (fail)
  have HQ : Hid _ := hid (HP.out.drewN nq)
  have HB : Hid _ := hid ((But.refl g w).rdrew nq)
  clear HP
  generalize w.drewN nq = W at *
  go_wp2
  go_ret
  exact ⟨by rw [HD.out]; rfl, HQ.out, HB.out⟩
/-- The value of a kind that Value picks. -/
def vaX (kind : Int) (zs : List Nat) : Vt := if kind = 2 then (2, 0, ([⟨#[97]⟩, ⟨#[98]⟩, ⟨#[]⟩, ⟨#[105, 116, 39, 115]⟩, ⟨#[122, 122]⟩][hdM zs 5]?).getD ⟨#[]⟩) else (1, (if hdM zs 12 = 11 then 9223372036854775807 else (hdM zs 12 : Int)), ⟨#[]⟩)
set_option maxRecDepth 100000 in
set_option maxHeartbeats 1000000 in
theorem valueX_any {g : Nat} {zs : List Nat} {w : World} (h : PkX w g zs) (kind : Int) (hk : kind = 1 ∨ kind = 2) :
    Calls Tryz.prog 22 #[.pointer (some ⟨g, 0, none⟩), .int .i64 kind] w fun e w' => e = .returned (vV (vaX kind zs)) ∧ PkX w' g zs.tail ∧ But g w w' := by
  have hgl := h.lt
  have hv : Bv (w.alloc (.cells #[.int .i64 0, .int .i64 0, .string ⟨#[]⟩] 39)) w.heap.size 0 0 ⟨#[]⟩ := ⟨heap_alloc_new w _⟩
  rcases hk with rfl | rfl
  · have HN : Hid _ := hid (numX_any (h.alloc (.cells #[.int .i64 0, .int .i64 0, .string ⟨#[]⟩] 39)) 12 (by decide) (by decide))
    clear h
    go_enter Tryz.func22, Tryz.ntmps22
    go_wp2_with fail
    refine Calls.mono HN.out ?_
    rintro e w1 ⟨rfl, hp, hb⟩
    have hk := hdM_lt zs (m := 12) (by decide)
    obtain ⟨k, hkz⟩ : ∃ k, hdM zs 12 = k := ⟨_, rfl⟩
    rw [hkz] at hk
    have HKZ : Hid _ := hid hkz
    rw [hkz]
    clear hkz
    have hB : But g w w1 := ((But.refl g w).alloc _).trans hb
    have hv1 := hv.but hb (by omega)
    obtain ⟨c0, c1, c2⟩ := hv1.cells
    obtain ⟨f0, f1, f2⟩ := hv1.free
    have hbl := hv1.lt
    by_cases h11 : k = 11
    · subst h11
      have HE : Hid _ := hid (hp.new3 (b := w.heap.size) hgl (.int .i64 1) (.int .i64 9223372036854775807) (.string ⟨#[]⟩))
      have HB : Hid _ := hid (hB.new3 (b := w.heap.size) (Nat.le_refl _) (.int .i64 1) (.int .i64 9223372036854775807) (.string ⟨#[]⟩))
      clear hv hv1 hp hB hb HN
      go_wp2
      exact bodyPost_ret (v := .agg #[.int .i64 1, .int .i64 9223372036854775807, .string ⟨#[]⟩]) (by simp [results, Tryz.results22, go_sem, c0, c1, c2]) rfl ⟨by unfold vaX; rw [if_neg (by decide), HKZ.out]; rfl, HE.out, HB.out⟩
    · have g1 : ((k : Int) == 11) = false := by simp; omega
      have HE : Hid _ := hid (hp.new3 (b := w.heap.size) hgl (.int .i64 1) (.int .i64 k) (.string ⟨#[]⟩))
      have HB : Hid _ := hid (hB.new3 (b := w.heap.size) (Nat.le_refl _) (.int .i64 1) (.int .i64 k) (.string ⟨#[]⟩))
      clear hv hv1 hp hB hb HN
      go_wp2
      exact bodyPost_ret (v := .agg #[.int .i64 1, .int .i64 k, .string ⟨#[]⟩]) (by simp [results, Tryz.results22, go_sem, c0, c1, c2]) rfl ⟨by unfold vaX; rw [if_neg (by decide), HKZ.out, if_neg h11], HE.out, HB.out⟩
  · have HN : Hid _ := hid (numX_any ((h.alloc (.cells #[.int .i64 0, .int .i64 0, .string ⟨#[]⟩] 39)).alloc (.cells #[.string ⟨#[97]⟩, .string ⟨#[98]⟩, .string ⟨#[]⟩, .string ⟨#[105, 116, 39, 115]⟩, .string ⟨#[122, 122]⟩] 9)) 5 (by decide) (by decide))
    clear h
    go_enter Tryz.func22, Tryz.ntmps22
    go_wp2_with fail
    refine Calls.mono HN.out ?_
    rintro e w1 ⟨rfl, hp, hb⟩
    have hk := hdM_lt zs (m := 5) (by decide)
    obtain ⟨k, hkz⟩ : ∃ k, hdM zs 5 = k := ⟨_, rfl⟩
    rw [hkz] at hk
    have HKZ : Hid _ := hid hkz
    rw [hkz]
    clear hkz
    have hB : But g w w1 := (((But.refl g w).alloc _).alloc _).trans hb
    have hc := strs_new _ hb (by simp; omega)
    have c4 := hc 4 (by decide)
    have c3 := hc 3 (by decide)
    have d0 := hc 0 (by decide)
    have d1 := hc 1 (by decide)
    have d2 := hc 2 (by decide)
    simp only [List.getElem_toArray, List.getElem_cons_zero, List.getElem_cons_succ, World.size_alloc] at d0 d1 d2 c3 c4
    have hv1 := (Bv.mk ((Below.heap_alloc _ _ _ hv.lt).trans hv.row) : Bv ((w.alloc (.cells #[.int .i64 0, .int .i64 0, .string ⟨#[]⟩] 39)).alloc (.cells #[.string ⟨#[97]⟩, .string ⟨#[98]⟩, .string ⟨#[]⟩, .string ⟨#[105, 116, 39, 115]⟩, .string ⟨#[122, 122]⟩] 9)) w.heap.size 0 0 ⟨#[]⟩).but hb (by omega)
    obtain ⟨c0, c1, c2⟩ := hv1.cells
    obtain ⟨f0, f1, f2⟩ := hv1.free
    have hbl : w.heap.size + 1 < w1.heap.size := by have := hb.size; simp at this; omega
    have HE : Hid (∀ s, _) := hid fun s => hp.new3 (b := w.heap.size) hgl (.int .i64 2) (.int .i64 0) (.string s)
    have HB : Hid (∀ s, _) := hid fun s => hB.new3 (b := w.heap.size) (Nat.le_refl _) (.int .i64 2) (.int .i64 0) (.string s)
    clear hv hv1 hp hB hb HN hc
    rcases (show k = 0 ∨ k = 1 ∨ k = 2 ∨ k = 3 ∨ k = 4 by omega) with rfl | rfl | rfl | rfl | rfl
    · go_wp2
      exact bodyPost_ret (v := .agg #[.int .i64 2, .int .i64 0, .string ⟨#[97]⟩]) (by simp [results, Tryz.results22, go_sem, c0, c1, c2]) rfl ⟨by unfold vaX; rw [if_pos rfl, HKZ.out]; rfl, HE.out _, HB.out _⟩
    · go_wp2
      exact bodyPost_ret (v := .agg #[.int .i64 2, .int .i64 0, .string ⟨#[98]⟩]) (by simp [results, Tryz.results22, go_sem, c0, c1, c2]) rfl ⟨by unfold vaX; rw [if_pos rfl, HKZ.out]; rfl, HE.out _, HB.out _⟩
    · go_wp2
      exact bodyPost_ret (v := .agg #[.int .i64 2, .int .i64 0, .string ⟨#[]⟩]) (by simp [results, Tryz.results22, go_sem, c0, c1, c2]) rfl ⟨by unfold vaX; rw [if_pos rfl, HKZ.out]; rfl, HE.out _, HB.out _⟩
    · go_wp2
      exact bodyPost_ret (v := .agg #[.int .i64 2, .int .i64 0, .string ⟨#[105, 116, 39, 115]⟩]) (by simp [results, Tryz.results22, go_sem, c0, c1, c2]) rfl ⟨by unfold vaX; rw [if_pos rfl, HKZ.out]; rfl, HE.out _, HB.out _⟩
    · go_wp2
      exact bodyPost_ret (v := .agg #[.int .i64 2, .int .i64 0, .string ⟨#[122, 122]⟩]) (by simp [results, Tryz.results22, go_sem, c0, c1, c2]) rfl ⟨by unfold vaX; rw [if_pos rfl, HKZ.out]; rfl, HE.out _, HB.out _⟩


end Go.Proofs.YtnlaaejdianfjabGreat
