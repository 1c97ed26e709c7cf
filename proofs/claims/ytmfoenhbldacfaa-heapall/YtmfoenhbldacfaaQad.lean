import Derived.Test.YtmfoenhbldacfaaQac
/- What a page tells: its lowest free slot, what is free, its slots; where records begin. -/
namespace Go.Proofs.Ytmfoenhbldacfaa
open Go.RowKit
set_option linter.unusedVariables false

theorem tr_self (R : List (List Int)) {k : Nat} (h : rc R k ≠ []) : tr R (k + 1) = k + 1 := by rw [tr, if_neg h]
theorem tr_down (R : List (List Int)) {k : Nat} (h : rc R k = []) : tr R (k + 1) = tr R k := by rw [tr, if_pos h]

set_option maxRecDepth 100000 in
theorem vacant_any {w : World} {g : Nat} {B : List Int} {R : List (List Int)} {p : Nat → Prop} (h : Pi w g B R p) :
    Calls Try.prog 30 #[.pointer (some ⟨g, 0, none⟩)] w fun e w' => e = .returned (.int .i64 (vac R : Int)) ∧ Below w.heap.size w w' := by
  have hf := h.iv.few
  have hv := vac_le R
  have HH : Hid (∀ w' (s : Nat), Below w.heap.size w w' → _) := fun w' s hb => has_any (h.later hb) (s : Int)
  go_enter Try.func30, Try.ntmps30
  go_wp2
  go_loopw [3] (fun i wr => ∃ k : Nat, k ≤ vac R ∧ i = .int .i64 (k : Int) ∧ Below w.heap.size w wr) (fun i wr => vac R - (intOf i).toNat)
  case atStart => exact ⟨0, Nat.zero_le _, rfl, Below.refl _ _⟩
  case round =>
    obtain ⟨k, hk, rfl, hb⟩ := hrel
    have H := HH.out wr k hb
    rw [hasZ_nat] at H
    by_cases hlt : k < vac R
    · have e : (!(rc R k).isEmpty) = true := by simpa using vac_lt R k hlt
      rw [e] at H
      replace H : Hid _ := H
      clear e
      go_wp2_with fail
      refine Calls.mono H.out ?_
      rintro e w1 ⟨rfl, hb1⟩
      have hb2 := bthen hb hb1
      clear H hb hb1
      go_wp2
      go_roundw
      case rel => exact ⟨k + 1, hlt, by go_num, hb2⟩
      case measure => simp [intOf]; omega
    · obtain rfl : k = vac R := by omega
      have e : (!(rc R (vac R)).isEmpty) = false := by simp [vac_out R]
      rw [e] at H
      replace H : Hid _ := H
      clear e
      go_wp2_with fail
      refine Calls.mono H.out ?_
      rintro e w1 ⟨rfl, hb1⟩
      have hb2 := bthen hb hb1
      clear H hb hb1
      go_wp2
      go_ret
      exact ⟨rfl, hb2⟩

set_option maxRecDepth 100000 in
theorem trim_any {w : World} {g : Nat} {B : List Int} {R : List (List Int)} (h : Pi w g B R allP) :
    Calls Try.prog 57 #[.pointer (some ⟨g, 0, none⟩)] w fun e w' => e = .returned (.tuple #[]) ∧ (∃ B', Pi w' g B' (trimR R) allP) ∧ Rest g w w' := by
  have hf := h.iv.few
  have hle := tr_le R R.length
  have HM : Hid _ := many_any h
  have HH : Hid (∀ w' (s : Nat), Below w.heap.size w w' → _) := fun w' s hb => has_any (h.later hb) (s : Int)
  have HS : Hid (∀ w', Below w.heap.size w w' → _) := fun w' hb => setMany_any (h.later hb).pg h.iv.len (tr R R.length) (by omega)
  have HT : Hid (Iv (putW B 0 (tr R R.length)) (trimR R) allP) := h.iv.trim hle (fun s hs => tr_out R R.length (fun s hs => rc_out hs) s hs)
  obtain ⟨n, hn⟩ : ∃ m : Nat, R.length = m := ⟨_, rfl⟩
  rw [hn] at HM HS HT hf hle
  clear hn
  go_enter Try.func57, Try.ntmps57
  go_wp2_with fail
  refine Calls.mono HM.out ?_
  rintro e w0 ⟨rfl, hb0⟩
  go_wp2
  go_loopw [2] (fun i wr => ∃ k : Nat, k ≤ n ∧ Hid (tr R k = tr R n) ∧ i = .int .i64 (k : Int) ∧ Below w.heap.size w wr) (fun i wr => (intOf i).toNat)
  case atStart => exact ⟨n, Nat.le_refl _, rfl, rfl, hb0⟩
  case round =>
    obtain ⟨k, hk, ht, rfl, hb⟩ := hrel
    rcases k with _ | k
    · have ht0 : tr R n = 0 := ht.out.symm
      have HS1 := HS.out wr hb
      rw [ht0] at HS1
      replace HS1 : Hid _ := HS1
      clear HS
      have HT1 := HT.out
      rw [ht0] at HT1
      replace HT1 : Hid _ := HT1
      clear HT ht0 hb0
      go_wp2_with fail
      refine Calls.mono HS1.out ?_
      rintro e w1 ⟨rfl, h1, hb1⟩
      go_wp2
      exact bodyPost_end (results_none rfl _ _ _) rfl ⟨rfl, ⟨_, h1, HT1.out⟩, (Rest.of hb).trans hb1⟩
    · have H := HH.out wr k hb
      rw [hasZ_nat] at H
      have g1 : (((k + 1 : Nat) : Int) - 1) = (k : Int) := by omega
      have g2 : decide ((0 : Int) < ((k + 1 : Nat) : Int)) = true := decide_eq_true (by omega)
      have g3 : IntKind.i64.wrap (((k + 1 : Nat) : Int) - 1) = (k : Int) := by rw [IntKind.wrap_i64]; omega
      obtain ⟨q, hq⟩ : ∃ q : Int, ((k + 1 : Nat) : Int) = q := ⟨_, rfl⟩
      have hq1 : 0 < q := by omega
      have hq2 : q ≤ 100 := by omega
      rw [hq] at g1 g2 g3 ⊢
      by_cases he : rc R k = []
      · have e : (!(rc R k).isEmpty) = false := by simp [he]
        rw [e] at H
        have ht2 : Hid _ := (tr_down R he).symm.trans ht.out
        replace H : Hid _ := H
        clear e he ht
        go_wp2_with fail
        refine Calls.mono H.out ?_
        rintro e w1 ⟨rfl, hb1⟩
        have hb2 := bthen hb hb1
        clear H hb hb1 HS HH
        go_wp2
        go_roundw
        case rel => exact ⟨k, by omega, ht2, rfl, hb2⟩
        case measure => simp [intOf]; omega
      · have e : (!(rc R k).isEmpty) = true := by simpa using he
        rw [e] at H
        have ht2 := (tr_self R he).symm.trans ht.out
        replace H : Hid _ := H
        have HT1 := HT.out
        rw [← ht2] at HT1
        replace HT1 : Hid _ := HT1
        have HS1 : Hid (∀ w', Below w.heap.size w w' → _) := fun w' hb => HS.out w' hb
        rw [← ht2, hq] at HS1
        clear e he ht ht2 HS HT hb0
        go_wp2_with fail
        refine Calls.mono H.out ?_
        rintro e w1 ⟨rfl, hb1⟩
        have hb2 := bthen hb hb1
        clear H hb hb1
        go_wp2_with fail
        refine Calls.mono (HS1.out _ hb2) ?_
        rintro e w2 ⟨rfl, h1, hb3⟩
        go_wp2
        exact bodyPost_end (results_none rfl _ _ _) rfl ⟨rfl, ⟨_, h1, HT1.out⟩, (Rest.of hb2).trans hb3⟩

theorem free_nil (w : World) : Calls Try.prog 65 #[.pointer none] w fun e w' => e = .returned (.int .i64 0) ∧ w' = w := by
  go_enter Try.func65, Try.ntmps65
  go_wp2
  go_ret
  exact ⟨rfl, rfl⟩

set_option maxRecDepth 100000 in
theorem free_any {w : World} {g : Nat} {B : List Int} {R : List (List Int)} {p : Nat → Prop} (h : Pi w g B R p) :
    Calls Try.prog 65 #[.pointer (some ⟨g, 0, none⟩)] w fun e w' => e = .returned (.int .i64 (freeR R)) ∧ Below w.heap.size w w' := by
  have hf := h.iv.few
  have HM : Hid (∀ w', Below w.heap.size w w' → _) := fun w' hb => many_any (h.later hb)
  have HL : Hid (∀ w' (s : Nat), s < R.length → Below w.heap.size w w' → _) := fun w' s hs hb => length_any (h.later hb) s hs
  have HS : Hid (∀ w', _) := fun w' => slotAt_any R.length w' (by omega)
  have HT : Hid (∀ k, tot (R.take (k + 1)) = _) := fun k => tot_take_succ R k
  have HF : Hid (freeR R = 248 - 4 * (R.length : Int) - (tot (R.take R.length) : Int)) := by rw [List.take_length]; rfl
  have HW : Hid (∀ k, tot (R.take k) ≤ 248) := fun k => Nat.le_trans (tot_take_le R k) hf.2
  obtain ⟨n, hn⟩ : ∃ m : Nat, R.length = m := ⟨_, rfl⟩
  rw [hn] at HM HS HL HF hf
  clear hn
  obtain ⟨hf1, hf2⟩ := hf
  generalize freeR R = FR at *
  go_enter Try.func65, Try.ntmps65
  go_wp2_with fail
  refine Calls.mono (HM.out _ (Below.refl _ _)) ?_
  rintro e w0 ⟨rfl, hb0⟩
  go_wp2_with fail
  refine Calls.mono (HS.out _) ?_
  rintro e w1 ⟨rfl, rfl⟩
  go_wp2_with fail
  refine Calls.mono (HM.out _ hb0) ?_
  rintro e w1 ⟨rfl, hb1⟩
  have hb2 := bthen hb0 hb1
  clear hb0 hb1
  go_wp2
  go_loopw [3, 13] (fun f i wr => ∃ k : Nat, k ≤ n ∧ i = .int .i64 (k : Int) ∧ (∃ t : Nat, Hid (t = tot (R.take k)) ∧ t ≤ 248 ∧ f = .int .i64 (248 - 4 * (n : Int) - (t : Int))) ∧ Below w.heap.size w wr) (fun f i wr => n - (intOf i).toNat)
  case atStart => exact ⟨0, Nat.zero_le _, rfl, ⟨0, by simp [Hid, tot], by omega, by go_num⟩, hb2⟩
  case round =>
    obtain ⟨k, hk, rfl, ⟨t, ht, ht2, rfl⟩, hb⟩ := hrel
    by_cases hlt : k < n
    · have H : Hid _ := HL.out wr k hlt hb
      have HN := HT.out k
      rw [← ht.out] at HN
      have hw := HW.out (k + 1)
      rw [HN] at hw
      obtain ⟨m, hm⟩ : ∃ m : Nat, (rc R k).length = m := ⟨_, rfl⟩
      rw [hm] at H HN hw
      replace HN : Hid _ := HN.symm
      clear hm ht
      go_wp2_with fail
      refine Calls.mono H.out ?_
      rintro e w1 ⟨rfl, hb1⟩
      have hb3 := bthen hb hb1
      clear H hb hb1
      go_wp2
      go_roundw
      case rel => exact ⟨k + 1, hlt, by go_num, ⟨t + m, HN, by omega, by go_num⟩, hb3⟩
      case measure => simp [intOf]; omega
    · obtain rfl : k = n := by omega
      have e := HF.out
      rw [← ht.out] at e
      replace e : Hid _ := e
      clear ht HF
      go_wp2
      go_ret
      exact ⟨ret_int e.out.symm, hb⟩

/-- L is where the records begin. -/
structure Low (B : List Int) (R : List (List Int)) (k L : Nat) : Prop where
  le : L ≤ 256
  lo : ∀ t, t < k → rc R t ≠ [] → L ≤ wd B (8 + 4 * t)
  gr : ∀ x, x ≤ 256 → (∀ t, t < k → rc R t ≠ [] → x ≤ wd B (8 + 4 * t)) → x ≤ L
theorem Low.zero (B : List Int) (R : List (List Int)) : Low B R 0 256 := ⟨Nat.le_refl _, fun t h => by omega, fun x h _ => h⟩
theorem Low.skip {B : List Int} {R : List (List Int)} {k L : Nat} (h : Low B R k L) (e : rc R k = []) : Low B R (k + 1) L :=
  ⟨h.le, fun t ht hn => by
    by_cases x : t = k
    · subst x; exact absurd e hn
    · exact h.lo t (by omega) hn, fun x hx hs => h.gr x hx fun t ht hn => hs t (by omega) hn⟩
theorem Low.step {B : List Int} {R : List (List Int)} {k L : Nat} (h : Low B R k L) (e : rc R k ≠ []) : Low B R (k + 1) (min L (wd B (8 + 4 * k))) :=
  ⟨by have := h.le; omega, fun t ht hn => by
    by_cases x : t = k
    · subst x; omega
    · have := h.lo t (by omega) hn; omega, fun x hx hs => by
    have h1 := h.gr x hx fun t ht hn => hs t (by omega) hn
    have h2 := hs k (by omega) e
    omega⟩

set_option maxRecDepth 100000 in
theorem lowest_any {w : World} {g : Nat} {B : List Int} {R : List (List Int)} {p : Nat → Prop} (h : Pi w g B R p) :
    Calls Try.prog 48 #[.pointer (some ⟨g, 0, none⟩)] w fun e w' => (∃ L : Nat, e = .returned (.int .i64 (L : Int)) ∧ Low B R R.length L) ∧ Below w.heap.size w w' := by
  have hf := h.iv.few
  have HM : Hid _ := many_any h
  have HH : Hid (∀ w' (s : Nat), Below w.heap.size w w' → _) := fun w' s hb => has_any (h.later hb) (s : Int)
  have HO : Hid (∀ w' (s : Nat), s < R.length → Below w.heap.size w w' → _) := fun w' s hs hb => offset_any (h.later hb) s hs
  have hy := h.iv.bys
  have HB : Hid (∀ s, wd B s < 65536) := fun s => wd_lt hy s
  obtain ⟨n, hn⟩ : ∃ m : Nat, R.length = m := ⟨_, rfl⟩
  rw [hn] at HM HO hf ⊢
  clear hn hy
  obtain ⟨hf1, hf2⟩ := hf
  go_enter Try.func48, Try.ntmps48
  go_wp2_with fail
  refine Calls.mono HM.out ?_
  rintro e w0 ⟨rfl, hb0⟩
  go_wp2
  go_loopw [3, 7] (fun f i wr => ∃ k : Nat, k ≤ n ∧ i = .int .i64 (k : Int) ∧ (∃ L : Nat, Hid (Low B R k L) ∧ L ≤ 256 ∧ f = .int .i64 (L : Int)) ∧ Below w.heap.size w wr) (fun f i wr => n - (intOf i).toNat)
  case atStart => exact ⟨0, Nat.zero_le _, rfl, ⟨256, Low.zero B R, by omega, rfl⟩, hb0⟩
  case round =>
    obtain ⟨k, hk, rfl, ⟨L, hL, hL2, rfl⟩, hb⟩ := hrel
    by_cases hlt : k < n
    · have H := HH.out wr k hb
      rw [hasZ_nat] at H
      by_cases he : rc R k = []
      · have e : (!(rc R k).isEmpty) = false := by simp [he]
        rw [e] at H
        have hL3 : Hid _ := hL.out.skip he
        replace H : Hid _ := H
        clear e he
        go_wp2_with fail
        refine Calls.mono H.out ?_
        rintro e w1 ⟨rfl, hb1⟩
        have hb2 := bthen hb hb1
        clear H hb hb1
        go_wp2
        go_roundw
        case rel => exact ⟨k + 1, hlt, by go_num, ⟨L, hL3, hL2, rfl⟩, hb2⟩
        case measure => simp [intOf]; omega
      · have e : (!(rc R k).isEmpty) = true := by simpa using he
        rw [e] at H
        have hL3 := hL.out.step he
        have hB := HB.out (8 + 4 * k)
        have HO1 : Hid (∀ w', Below w.heap.size w w' → _) := fun w' hb => HO.out w' k hlt hb
        obtain ⟨o, ho⟩ : ∃ o : Nat, wd B (8 + 4 * k) = o := ⟨_, rfl⟩
        rw [ho] at hL3 hB HO1
        obtain ⟨m, hm⟩ : ∃ m : Nat, min L o = m := ⟨_, rfl⟩
        have hm2 : m ≤ 256 := by omega
        have hm3 : min (L : Int) (o : Int) = (m : Int) := by omega
        rw [hm] at hL3
        replace hL3 : Hid _ := hL3
        replace H : Hid _ := H
        replace hm3 : Hid _ := hm3
        clear e he ho hm hL
        go_wp2_with fail
        refine Calls.mono H.out ?_
        rintro e w1 ⟨rfl, hb1⟩
        have hb2 := bthen hb hb1
        clear H hb hb1
        go_wp2_with fail
        refine Calls.mono (HO1.out _ hb2) ?_
        rintro e w2 ⟨rfl, hb1⟩
        have hb3 := bthen hb2 hb1
        clear hb2 hb1
        go_wp2
        go_roundw
        case rel => exact ⟨k + 1, hlt, by go_num, ⟨m, hL3, hm2, by first | rw [hm3.out] | (rw [← hm3.out]; go_num)⟩, hb3⟩
        case measure => simp [intOf]; omega
    · obtain rfl : k = n := by omega
      go_wp2
      go_ret
      exact ⟨⟨L, rfl, hL.out⟩, hb⟩

/-- Numbers of the call's own, from block B on. -/
def OwnI (B : Nat) (w : World) (v : Value) (l : List Int) : Prop := w.ownsRow B 3 1 v l.length (l.map (Value.int .i64))
theorem OwnI.rd {B : Nat} {w : World} {v : Value} {l : List Int} (h : OwnI B w v l) : ∃ ao c, v = .slice ao l.length c ∧ Rd .i64 w ao l.length c l ∧ ∀ a, ao = some a → B ≤ a.block := by
  obtain ⟨ao, c, hv, hr⟩ := Rd.of_owns h
  refine ⟨ao, c, hv, hr, fun a ha => ?_⟩
  rcases h.2 with ⟨e, _⟩ | ⟨b, cap, cur, e, hb, _⟩
  · rw [hv] at e
    simp only [Value.slice.injEq] at e
    rw [e.1] at ha; cases ha
  · rw [hv] at e
    simp only [Value.slice.injEq] at e
    rw [e.1] at ha; cases ha; exact hb
theorem OwnI.later {B : Nat} {w w' : World} {v : Value} {l : List Int} (h : OwnI B w v l) (hb : Below w.heap.size w w') : OwnI B w' v l := by
  refine ⟨h.1, ?_⟩
  rcases h.2 with k | ⟨g, cap, cur, hv, hg, hh, r⟩
  · exact .inl k
  · exact .inr ⟨g, cap, cur, hv, hg, by rw [hb.block g (Array.getElem?_eq_some_iff.1 hh).1]; exact hh, r⟩
theorem Try.info3i : (Try.prog.info? 3).map (fun i => (i.zero, i.size, i.bytes)) = some (some (.int .i64 0), 1, 8) := by kernel_rfl

/-- The slots that have a record, as numbers. -/
def prI (R : List (List Int)) (k : Nat) : List Int := (prs R k).map (fun (s : Nat) => (s : Int))
theorem prI_succ (R : List (List Int)) (k : Nat) : prI R (k + 1) = if rc R k = [] then prI R k else prI R k ++ [(k : Int)] := by
  rw [prI, prs_succ]; split <;> simp [prI]
theorem prs_len (R : List (List Int)) (k : Nat) : (prs R k).length ≤ k := by
  have := List.length_filter_le (fun s => !(rc R s).isEmpty) (List.range k)
  rw [prs]; simpa using this
theorem prI_len (R : List (List Int)) (k : Nat) : (prI R k).length ≤ k := by
  rw [prI, List.length_map]; exact prs_len R k

theorem slots_nil (w : World) : Calls Try.prog 55 #[.pointer none] w fun e w' => e = .returned (.slice none 0 0) ∧ w' = w := by
  go_enter Try.func55, Try.ntmps55
  go_wp2
  go_ret
  exact ⟨rfl, rfl⟩

set_option maxRecDepth 100000 in
theorem slots_any {w : World} {g : Nat} {B : List Int} {R : List (List Int)} {p : Nat → Prop} (h : Pi w g B R p) :
    Calls Try.prog 55 #[.pointer (some ⟨g, 0, none⟩)] w fun e w' => (∃ v, e = .returned v ∧ OwnI w.heap.size w' v (prI R R.length)) ∧ Below w.heap.size w w' := by
  have hf := h.iv.few
  have HM : Hid _ := many_any h
  have HH : Hid (∀ w' (s : Nat), Below w.heap.size w w' → _) := fun w' s hb => has_any (h.later hb) (s : Int)
  obtain ⟨i0, hi, hz0, hz1, hz2⟩ := info_parts Try.info3i
  obtain ⟨n, hn⟩ : ∃ m : Nat, R.length = m := ⟨_, rfl⟩
  rw [hn] at HM hf ⊢
  clear hn
  obtain ⟨hf1, hf2⟩ := hf
  go_enter Try.func55, Try.ntmps55
  go_wp2_with fail
  refine Calls.mono HM.out ?_
  rintro e w0 ⟨rfl, hb0⟩
  go_wp2
  go_loopw [3, 9] (fun v i wr => ∃ k : Nat, k ≤ n ∧ i = .int .i64 (k : Int) ∧ Hid (OwnI w.heap.size wr v (prI R k)) ∧ Below w.heap.size w wr) (fun v i wr => n - (intOf i).toNat)
  case atStart => exact ⟨0, Nat.zero_le _, rfl, World.ownsRow_nil _ _ 3 1, hb0⟩
  case round =>
    obtain ⟨k, hk, rfl, hown, hb⟩ := hrel
    by_cases hlt : k < n
    · have H := HH.out wr k hb
      rw [hasZ_nat] at H
      by_cases he : rc R k = []
      · have e : (!(rc R k).isEmpty) = false := by simp [he]
        rw [e] at H
        replace H : Hid _ := H
        have hs := prI_succ R k
        rw [if_pos he] at hs
        replace hs : Hid _ := hs
        clear e he
        go_wp2_with fail
        refine Calls.mono H.out ?_
        rintro e w1 ⟨rfl, hb1⟩
        have hb2 := bthen hb hb1
        have hown2 : Hid _ := hown.out.later hb1
        clear H hb hb1 hown
        go_wp2
        go_roundw
        case rel => exact ⟨k + 1, hlt, by go_num, by rw [hs.out]; exact hown2, hb2⟩
        case measure => simp [intOf]; omega
      · have e : (!(rc R k).isEmpty) = true := by simpa using he
        rw [e] at H
        replace H : Hid _ := H
        have hs := prI_succ R k
        rw [if_neg he] at hs
        replace hs : Hid _ := hs
        have hpl := prI_len R k
        obtain ⟨P, hP⟩ : ∃ P, prI R k = P := ⟨_, rfl⟩
        rw [hP] at hown hs hpl
        clear e he hP
        go_wp2_with fail
        refine Calls.mono H.out ?_
        rintro e w1 ⟨rfl, hb1⟩
        have hb2 := bthen hb hb1
        have hown2 := hown.out.later hb1
        unfold OwnI at hown2
        replace hown2 : Hid _ := hown2
        clear H hb hb1 hown
        go_wp2_with (at_builtin; go_must (refine wpList_append_own _ rfl _ _ 91 rfl w.heap.size 3 i0 (.int .i64 0) 1 8 Try.underlying91 hi hz0 hz1 hz2 rfl (by decide) _ _ _ rfl (World.ownsRow.alloc hown2.out _) ⟨w1.heap.size, 0, none⟩ 1 1 [.int .i64 (k : Int)] rfl rfl (one_new0 _ _ _) (ints_one .i64 [(k : Int)]) (by unfold maxLen; omega) (by omega) (by have := hb2.size; simp; omega) ?_))
        intro v' w2 h2 hg _
        obtain ⟨h3, h4⟩ := snoc_rel0 hown2.out hb2 hb2.size h2 hg
        replace h3 : Hid (OwnI w.heap.size w2 v' (P ++ [(k : Int)])) := h3
        clear h2 hg hown2
        go_wp2
        go_roundw
        case rel => exact ⟨k + 1, hlt, by go_num, by rw [hs.out]; exact h3, h4⟩
        case measure => simp [intOf]; omega
    · obtain rfl : k = n := by omega
      go_wp2
      go_ret
      exact ⟨⟨_, rfl, hown.out⟩, hb⟩

/-- Has the record room? -/
theorem fits_any {w : World} {g : Nat} {B : List Int} {R : List (List Int)} (h : Pi w g B R allP) (s n : Nat) (hs : s ≤ R.length) (hn : n ≤ 1000) (b : List Int) (hbn : b.length = n) :
    Calls Try.prog 45 #[.pointer (some ⟨g, 0, none⟩), .int .i64 (s : Int), .int .i64 (n : Int)] w fun e w' => e = .returned (.bool (decide (0 ≤ freeR (setR R s b)))) ∧ Below w.heap.size w w' := by
  have hfr := setR_free hs b
  have hf := h.iv.few
  have hF0 := h.iv.fr
  have hF1 : freeR R ≤ 248 := by unfold freeR; omega
  have HF : Hid _ := free_any h
  have HM : Hid (∀ w', Below w.heap.size w w' → _) := fun w' hb => many_any (h.later hb)
  have HH : Hid (∀ w', Below w.heap.size w w' → _) := fun w' hb => has_any (h.later hb) (s : Int)
  rw [hasZ_nat] at HH
  rw [hbn] at hfr
  by_cases he : rc R s = []
  · have e : (!(rc R s).isEmpty) = false := by simp [he]
    rw [e] at HH
    rw [he] at hfr
    by_cases hlt : s < R.length
    · rw [if_pos hlt] at hfr
      have g1 : decide ((R.length : Int) ≤ (s : Int)) = false := by simp; omega
      have g2 : decide (0 ≤ freeR (setR R s b)) = decide ((n : Int) ≤ freeR R) := by rw [Bool.eq_iff_iff]; simp at hfr ⊢; omega
      rw [g2]
      obtain ⟨m, hm⟩ : ∃ m : Nat, R.length = m := ⟨_, rfl⟩
      rw [hm] at HM g1 hlt
      have g3 : ¬ ((m : Int) ≤ (s : Int)) := by omega
      generalize freeR R = fr at *
      clear hfr e he hm g2 hs hf hbn hlt
      go_enter Try.func45, Try.ntmps45
      go_wp2_with fail
      refine Calls.mono HF.out ?_
      rintro e w1 ⟨rfl, hb⟩
      go_wp2_with fail
      refine Calls.mono (HH.out _ hb) ?_
      rintro e w2 ⟨rfl, hb2⟩
      have hb3 := bthen hb hb2
      go_wp2_with fail
      refine Calls.mono (HM.out _ hb3) ?_
      rintro e w3 ⟨rfl, hb4⟩
      go_wp2
      go_ret
      exact ⟨by simp, bthen hb3 hb4⟩
    · rw [if_neg hlt] at hfr
      have g1 : decide ((R.length : Int) ≤ (s : Int)) = true := by simp; omega
      have g2 : decide (0 ≤ freeR (setR R s b)) = decide ((n : Int) ≤ freeR R - 4) := by rw [Bool.eq_iff_iff]; simp at hfr ⊢; omega
      rw [g2]
      obtain ⟨m, hm⟩ : ∃ m : Nat, R.length = m := ⟨_, rfl⟩
      rw [hm] at HM g1 hlt
      have g3 : ((m : Int) ≤ (s : Int)) := by omega
      generalize freeR R = fr at *
      clear hfr e he hm g2 hs hf hbn hlt
      go_enter Try.func45, Try.ntmps45
      go_wp2_with fail
      refine Calls.mono HF.out ?_
      rintro e w1 ⟨rfl, hb⟩
      go_wp2_with fail
      refine Calls.mono (HH.out _ hb) ?_
      rintro e w2 ⟨rfl, hb2⟩
      have hb3 := bthen hb hb2
      go_wp2_with fail
      refine Calls.mono (HM.out _ hb3) ?_
      rintro e w3 ⟨rfl, hb4⟩
      go_wp2
      go_ret
      exact ⟨by simp, bthen hb3 hb4⟩
  · have e : (!(rc R s).isEmpty) = true := by simpa using he
    have hlt := rc_lt he
    have HL : Hid (∀ w', Below w.heap.size w w' → _) := fun w' hb => length_any (h.later hb) s hlt
    rw [e] at HH
    rw [if_pos hlt] at hfr
    have hll := tot_ge R s
    obtain ⟨l, hl⟩ : ∃ l : Nat, (rc R s).length = l := ⟨_, rfl⟩
    rw [hl] at HL hfr hll
    have g2 : decide (0 ≤ freeR (setR R s b)) = decide ((n : Int) ≤ freeR R + (l : Int)) := by rw [Bool.eq_iff_iff]; simp at hfr ⊢; omega
    rw [g2]
    have hl2 : l ≤ 248 := by omega
    generalize freeR R = fr at *
    clear hfr e he g2 hs hf hbn hlt hl hll
    go_enter Try.func45, Try.ntmps45
    go_wp2_with fail
    refine Calls.mono HF.out ?_
    rintro e w1 ⟨rfl, hb⟩
    go_wp2_with fail
    refine Calls.mono (HH.out _ hb) ?_
    rintro e w2 ⟨rfl, hb2⟩
    have hb3 := bthen hb hb2
    go_wp2_with fail
    refine Calls.mono (HL.out _ hb3) ?_
    rintro e w3 ⟨rfl, hb4⟩
    go_wp2
    go_ret
    exact ⟨by simp, bthen hb3 hb4⟩

end Go.Proofs.Ytmfoenhbldacfaa
