/- Slices of values that may be read; the walks of row's mayCount, May and of the document's MayRow. -/
import Derived.Test.YtdeplfhkeneabaaR1
import Derived.Test.YtdeplfhkeneabaaV4
namespace Go.Proofs.Ytdeplfhkeneabaa
open Go.RowKit
set_option linter.unusedVariables false

/-- The value at place i. -/
def vth (l : List Vl) (i : Nat) : Vl := l[i]?.getD (0, 0, ⟨#[]⟩)
theorem vth_at {l : List Vl} {i : Nat} (h : i < l.length) : vth l i = l[i] := by rw [vth, List.getElem?_eq_getElem h]; rfl
theorem vth_mem {l : List Vl} {i : Nat} (h : i < l.length) : vth l i ∈ l := by rw [vth_at h]; exact List.getElem_mem h
/-- The three cells of a value from o on in block b. -/
def Cv (w : World) (b o : Nat) (v : Vl) : Prop := w.cell? ⟨b, o, none⟩ = some (.int .i64 v.1) ∧ w.cell? ⟨b, o + 1, none⟩ = some (.int .i64 v.2.1) ∧ w.cell? ⟨b, o + 2, none⟩ = some (.string v.2.2)
theorem Cv.later {w w' : World} {b o : Nat} {v : Vl} (h : Cv w b o v) (hb : Below w.heap.size w w') : Cv w' b o v := ⟨cell_later hb h.1, cell_later hb h.2.1, cell_later hb h.2.2⟩
/-- The slice value '.slice ao n c' reads, in w, as the n values vs. -/
structure RdV (w : World) (ao : Option Addr) (n c : Nat) (vs : List Vl) : Prop where
  len : vs.length = n
  cap : n ≤ c
  max : c ≤ 9223372036854775807
  non : ao = none → c = 0
  cells : 0 < n → ∃ b o, ao = some ⟨b, o, none⟩ ∧ ∀ i, i < n → Cv w b (o + i * 3) (vth vs i)
theorem RdV.nil (w : World) : RdV w none 0 0 [] := ⟨rfl, Nat.le_refl _, by omega, fun _ => rfl, fun h => absurd h (Nat.lt_irrefl _)⟩
theorem RdV.later {w w' : World} {ao : Option Addr} {n c : Nat} {vs : List Vl} (h : RdV w ao n c vs) (hb : Below w.heap.size w w') : RdV w' ao n c vs :=
  ⟨h.len, h.cap, h.max, h.non, fun hn => by
    obtain ⟨b, o, ha, hc⟩ := h.cells hn
    exact ⟨b, o, ha, fun i hi => (hc i hi).later hb⟩⟩
/-- The texts are no longer than a text can be. -/
def Sized (l : List Vl) : Prop := ∀ v ∈ l, v.2.2.size ≤ 9223372036854775807

def cntB (n : Int) : Bool := decide (1 ≤ n) && decide (n ≤ 6)

theorem mayCount_any (n : Int) (w : World) : Calls Try.prog 22 #[.int .i64 n] w fun e w' => e = .returned (.bool (cntB n)) ∧ w' = w := by
  by_cases h : 1 ≤ n
  · have e : cntB n = decide (n ≤ 6) := by simp [cntB, h]
    rw [e]
    have h1 : decide ((1 : Int) ≤ n) = true := by simpa using h
    clear e
    go_enter Try.func22, Try.ntmps22
    go_wp2
    go_ret
    exact ⟨rfl, rfl⟩
  · have e : cntB n = false := by simp [cntB, h]
    rw [e]
    have h1 : decide ((1 : Int) ≤ n) = false := by simpa using h
    clear e
    go_enter Try.func22, Try.ntmps22
    go_wp2
    go_ret
    exact ⟨rfl, rfl⟩

theorem all_stepV {l : List Vl} {k : Nat} (hk : k < l.length) (h : (l.take k).all mayVl = true) (hx : mayVl (vth l k) = true) : (l.take (k + 1)).all mayVl = true := by
  rw [take_snoc hk, List.all_append, h]
  rw [vth_at hk] at hx
  simpa using hx
theorem all_faultV {l : List Vl} {k : Nat} (hk : k < l.length) (hx : mayVl (vth l k) = false) : l.all mayVl = false := by
  cases e : l.all mayVl with
  | false => rfl
  | true =>
    have := List.all_eq_true.1 e _ (vth_mem hk)
    rw [hx] at this; cases this
theorem all_endV {l : List Vl} {k : Nat} (hk : l.length ≤ k) (h : (l.take k).all mayVl = true) : l.all mayVl = true := by rwa [List.take_of_length_le hk] at h

theorem mayR_cnt {l : List Vl} {n : Nat} (hl : l.length = n) : mayR l = (cntB (n : Int) && l.all mayVl) := by
  subst hl
  have e1 : decide (1 ≤ l.length) = decide ((1 : Int) ≤ (l.length : Int)) := by rw [Bool.eq_iff_iff]; simp; omega
  have e2 : decide (l.length ≤ 6) = decide ((l.length : Int) ≤ 6) := by rw [Bool.eq_iff_iff]; simp; omega
  rw [mayR, cntB, e1, e2]

set_option maxRecDepth 100000 in
theorem mayRow_any (ao : Option Addr) (n c : Nat) (vs : List Vl) (w : World) (h : RdV w ao n c vs) (hs : Sized vs) : Calls Try.prog 10 #[.slice ao n c] w fun e w' => e = .returned (.bool (mayR vs)) ∧ Below w.heap.size w w' := by
  have hlen := h.len
  have hcap := h.cap
  have hmax := h.max
  have HC := mayCount_any (n : Int) w
  have eM := mayR_cnt hlen
  cases e2 : cntB (n : Int) with
  | true =>
    rw [e2] at HC eM
    rw [Bool.true_and] at eM
    rw [eM]
    have hn1 : 0 < n := by
      rw [cntB, Bool.and_eq_true, decide_eq_true_iff, decide_eq_true_iff] at e2
      omega
    obtain ⟨b, o, rfl, hc⟩ := h.cells hn1
    have HH : Hid (∀ i, i < n → Cv w b (o + i * 3) (vth vs i)) := hc
    have HL : Hid (vs.length = n) := hlen
    have HS : Hid (Sized vs) := hs
    replace HC : Hid _ := HC
    clear eM e2 hc h hlen hs
    go_enter Try.func10, Try.ntmps10
    go_wp2_with fail
    refine Calls.mono HC.out ?_
    rintro e w1 ⟨rfl, rfl⟩
    clear HC
    go_wp2
    go_loopw [11] (fun i wr => ∃ k : Nat, k ≤ n ∧ i = .int .i64 k ∧ Hid ((vs.take k).all mayVl = true) ∧ Hid (Below w1.heap.size w1 wr)) (fun i _ => n - (intOf i).toNat)
    case atStart => exact ⟨0, by omega, rfl, by simp [Hid], Below.refl _ _⟩
    case round =>
      obtain ⟨k, hk, rfl, HD, HB⟩ := hrel
      by_cases hlt : k < n
      · obtain ⟨c0, c1, c2⟩ := (HH.out k hlt).later HB.out
        have HM : Hid (∀ w, _) := fun w => may_any (vth vs k).1 (vth vs k).2.1 (vth vs k).2.2 (HS.out _ (vth_mem (by rw [HL.out]; exact hlt))) w
        cases hx : mayV (vth vs k).1 (vth vs k).2.1 (nums (vth vs k).2.2) with
        | true =>
          rw [hx] at HM
          have HN : Hid _ := all_stepV (by rw [HL.out]; exact hlt) HD.out hx
          clear hx HD
          generalize vth vs k = v at *
          obtain ⟨v0, v1, v2⟩ := v
          have hB1 := HB.out.alloc HB.out.size (.cells #[.int .i64 v0, .int .i64 v1, .string v2] 35)
          go_wp2_with fail
          refine Calls.mono (HM.out _) ?_
          rintro e w2 ⟨rfl, hb2⟩
          replace hB1 := Below.on hB1 hb2
          clear HM hb2 HB c0 c1 c2
          go_wp2
          go_roundw
          case rel => exact ⟨k + 1, by omega, by go_num, HN, hB1⟩
          case measure => simp only [intOf]; omega
        | false =>
          rw [hx] at HM
          have HN : Hid _ := all_faultV (k := k) (by rw [HL.out]; exact hlt) hx
          clear hx HD
          generalize vth vs k = v at *
          obtain ⟨v0, v1, v2⟩ := v
          have hB1 := HB.out.alloc HB.out.size (.cells #[.int .i64 v0, .int .i64 v1, .string v2] 35)
          go_wp2_with fail
          refine Calls.mono (HM.out _) ?_
          rintro e w2 ⟨rfl, hb2⟩
          replace hB1 := Below.on hB1 hb2
          clear HM hb2 HB c0 c1 c2
          go_wp2
          go_ret
          exact ⟨ret_bool HN.out.symm, hB1⟩
      · go_wp2
        go_ret
        exact ⟨ret_bool (all_endV (by rw [HL.out]; omega) HD.out).symm, HB.out⟩
  | false =>
    rw [e2] at HC eM
    rw [Bool.false_and] at eM
    rw [eM]
    replace HC : Hid _ := HC
    clear eM e2 h
    go_enter Try.func10, Try.ntmps10
    go_wp2_with fail
    refine Calls.mono HC.out ?_
    rintro e w1 ⟨rfl, rfl⟩
    go_wp2
    go_ret
    exact ⟨rfl, Below.refl _ _⟩

set_option maxRecDepth 100000 in
theorem refMayRow_any (ao : Option Addr) (n c : Nat) (vs : List Vl) (w : World) (h : RdV w ao n c vs) (hs : Sized vs) : Calls Try.prog 11 #[.slice ao n c] w fun e w' => e = .returned (.bool (mayR vs)) ∧ Below w.heap.size w w' := by
  have hlen := h.len
  have hcap := h.cap
  have hmax := h.max
  have eM : Hid _ := mayR_cnt hlen
  have HH : Hid (∀ w', Below w.heap.size w w' → 0 < n → ∃ b o, ao = some ⟨b, o, none⟩ ∧ ∀ i, i < n → Cv w' b (o + i * 3) (vth vs i)) := fun w' hb => (h.later hb).cells
  have HL : Hid (vs.length = n) := hlen
  have HS : Hid (Sized vs) := hs
  clear h hlen hs
  go_enter Try.func11, Try.ntmps11
  go_wp2
  go_loopw [3] (fun i wr => ∃ k : Nat, k ≤ n ∧ i = .int .i64 k ∧ Hid ((vs.take k).all mayVl = true) ∧ Hid (Below w.heap.size w wr)) (fun i _ => n - (intOf i).toNat)
  case atStart => exact ⟨0, by omega, rfl, by simp [Hid], Below.refl _ _⟩
  case round =>
    obtain ⟨k, hk, rfl, HD, HB⟩ := hrel
    by_cases hlt : k < n
    · obtain ⟨b, o, rfl, hc⟩ := HH.out wr HB.out (by omega)
      obtain ⟨c0, c1, c2⟩ := hc k hlt
      clear hc
      have HM : Hid (∀ w, _) := fun w => refMay_any (vth vs k).1 (vth vs k).2.1 (vth vs k).2.2 (HS.out _ (vth_mem (by rw [HL.out]; exact hlt))) w
      cases hx : mayV (vth vs k).1 (vth vs k).2.1 (nums (vth vs k).2.2) with
      | true =>
        rw [hx] at HM
        have HN : Hid _ := all_stepV (by rw [HL.out]; exact hlt) HD.out hx
        clear hx HD
        generalize vth vs k = v at *
        obtain ⟨v0, v1, v2⟩ := v
        go_wp2_with fail
        refine Calls.mono (HM.out _) ?_
        rintro e w2 ⟨rfl, hb2⟩
        have hB1 := Below.on HB.out hb2
        clear HM hb2 HB c0 c1 c2
        go_wp2
        go_roundw
        case rel => exact ⟨k + 1, by omega, by go_num, HN, hB1⟩
        case measure => simp only [intOf]; omega
      | false =>
        rw [hx] at HM
        have HN : Hid _ := all_faultV (k := k) (by rw [HL.out]; exact hlt) hx
        clear hx HD
        generalize vth vs k = v at *
        obtain ⟨v0, v1, v2⟩ := v
        go_wp2_with fail
        refine Calls.mono (HM.out _) ?_
        rintro e w2 ⟨rfl, hb2⟩
        have hB1 := Below.on HB.out hb2
        clear HM hb2 HB c0 c1 c2
        go_wp2
        go_ret
        exact ⟨ret_bool (by rw [eM.out, HN.out, Bool.and_false]), hB1⟩
    · have HN : Hid _ := all_endV (l := vs) (k := k) (by rw [HL.out]; omega) HD.out
      by_cases h1 : 1 ≤ n
      · have g1 : decide ((1 : Int) ≤ (n : Int)) = true := by simp; omega
        go_wp2
        go_ret
        exact ⟨ret_bool (by rw [eM.out, HN.out, Bool.and_true, cntB, g1, Bool.true_and]), HB.out⟩
      · have g1 : decide ((1 : Int) ≤ (n : Int)) = false := by simp; omega
        go_wp2
        go_ret
        exact ⟨ret_bool (by rw [eM.out, HN.out, Bool.and_true, cntB, g1, Bool.false_and]), HB.out⟩

/-- Is a row not too great? -/
def lightB (l : List Vl) : Bool := decide (l.length ≤ 20) && l.all fun v => decide (v.2.2.size ≤ 200)
theorem lightB_iff {l : List Vl} : lightB l = true ↔ l.length ≤ 20 ∧ ∀ v ∈ l, v.2.2.size ≤ 200 := by
  rw [lightB, Bool.and_eq_true, decide_eq_true_iff, List.all_eq_true]
  simp
theorem all_stepL {l : List Vl} {k : Nat} {f : Vl → Bool} (hk : k < l.length) (h : (l.take k).all f = true) (hx : f (vth l k) = true) : (l.take (k + 1)).all f = true := by
  rw [take_snoc hk, List.all_append, h]
  rw [vth_at hk] at hx
  simpa using hx
theorem all_faultL {l : List Vl} {k : Nat} {f : Vl → Bool} (hk : k < l.length) (hx : f (vth l k) = false) : l.all f = false := by
  cases e : l.all f with
  | false => rfl
  | true =>
    have := List.all_eq_true.1 e _ (vth_mem hk)
    rw [hx] at this; cases this

set_option maxRecDepth 100000 in
theorem light_any (ao : Option Addr) (n c : Nat) (vs : List Vl) (w : World) (h : RdV w ao n c vs) (hs : Sized vs) : Calls Try.prog 7 #[.slice ao n c] w fun e w' => e = .returned (.bool (lightB vs)) ∧ w' = w := by
  have hlen := h.len
  have hcap := h.cap
  have hmax := h.max
  by_cases h20 : n ≤ 20
  · have e : lightB vs = vs.all fun v => decide (v.2.2.size ≤ 200) := by
      have : vs.length ≤ 20 := by omega
      simp [lightB, this]
    rw [e]
    have HH : Hid (0 < n → ∃ b o, ao = some ⟨b, o, none⟩ ∧ ∀ i, i < n → Cv w b (o + i * 3) (vth vs i)) := h.cells
    have HL : Hid (vs.length = n) := hlen
    have HS : Hid (Sized vs) := hs
    clear h hlen hs e
    go_enter Try.func7, Try.ntmps7
    go_wp2
    go_loopw [3] (fun i wr => ∃ k : Nat, k ≤ n ∧ i = .int .i64 k ∧ Hid ((vs.take k).all (fun v => decide (v.2.2.size ≤ 200)) = true) ∧ wr = w) (fun i _ => n - (intOf i).toNat)
    case atStart => exact ⟨0, by omega, rfl, by simp [Hid], rfl⟩
    case round =>
      obtain ⟨k, hk, rfl, HD, rfl⟩ := hrel
      by_cases hlt : k < n
      · obtain ⟨b, o, rfl, hc⟩ := HH.out (by omega)
        obtain ⟨c0, c1, c2⟩ := hc k hlt
        clear hc c0 c1
        have hsz := HS.out _ (vth_mem (l := vs) (i := k) (by rw [HL.out]; exact hlt))
        by_cases hx : (vth vs k).2.2.size ≤ 200
        · have HN : Hid _ := all_stepL (f := fun v => decide (v.2.2.size ≤ 200)) (by rw [HL.out]; exact hlt) HD.out (by simpa using hx)
          clear HD
          generalize (vth vs k).2.2 = s at *
          go_wp2
          go_roundw
          case rel => exact ⟨k + 1, by omega, by go_num, HN, trivial⟩
          case measure => simp only [intOf]; omega
        · have HN : Hid _ := all_faultL (f := fun v => decide (v.2.2.size ≤ 200)) (k := k) (l := vs) (by rw [HL.out]; exact hlt) (by simpa using hx)
          clear HD
          generalize (vth vs k).2.2 = s at *
          go_wp2
          go_ret
          exact ⟨ret_bool HN.out.symm, rfl⟩
      · have HN : (vs.all fun v => decide (v.2.2.size ≤ 200)) = true := by
          have := HD.out
          rwa [List.take_of_length_le (by rw [HL.out]; omega)] at this
        replace HN : Hid _ := HN
        clear HD
        go_wp2
        go_ret
        exact ⟨ret_bool HN.out.symm, rfl⟩
  · have e : lightB vs = false := by
      have : ¬ vs.length ≤ 20 := by omega
      simp [lightB, this]
    rw [e]
    clear h e hs
    go_enter Try.func7, Try.ntmps7
    go_wp2
    go_ret
    exact ⟨rfl, rfl⟩

theorem place_any (k : Int) (n : Nat) (w : World) (hn : 1 ≤ n) (hn2 : n ≤ 1000) (hk : Fits k) :
    Calls Try.prog 15 #[.int .i64 k, .int .i64 n] w fun e w' => (∃ r : Nat, r < n ∧ e = .returned (.int .i64 r)) ∧ w' = w := by
  have h1 : k.tmod n < n := Int.tmod_lt_of_pos k (by omega)
  have h2 : (-k).tmod n < n := Int.tmod_lt_of_pos (-k) (by omega)
  rw [Int.neg_tmod] at h2
  by_cases hneg : k.tmod n < 0
  · go_enter Try.func15, Try.ntmps15
    go_wp2
    go_ret
    exact ⟨⟨(k.tmod n + n).toNat, by omega, ret_int (by omega)⟩, rfl⟩
  · go_enter Try.func15, Try.ntmps15
    go_wp2
    go_ret
    exact ⟨⟨(k.tmod n).toNat, by omega, ret_int (by omega)⟩, rfl⟩

end Go.Proofs.Ytdeplfhkeneabaa
