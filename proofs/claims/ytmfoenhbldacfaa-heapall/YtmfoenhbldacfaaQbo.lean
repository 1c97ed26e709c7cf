import Derived.Test.YtmfoenhbldacfaaQbn
/- Does the heap say what the list says? -/
namespace Go.Proofs.Ytmfoenhbldacfaa
open Go.RowKit Go.Shelf
set_option linter.unusedVariables false
set_option linter.unusedSimpArgs false

def idC (L : List Rec) : List Value := (ks L).map (Value.int .u64)
def rcC (L : List Rec) : List Value := L.map fun p => Value.string (strOfNums p.2)
theorem idC_len (L : List Rec) : (idC L).length = L.length := by simp [idC, ks]
theorem rcC_len (L : List Rec) : (rcC L).length = L.length := by simp [rcC]
theorem idC_at {L : List Rec} {i : Nat} (h : i < L.length) : (idC L)[i]? = some (.int .u64 (nth (ks L) i)) := by
  simp [idC, ks, nth, h]
theorem rcC_at {L : List Rec} {i : Nat} (h : i < L.length) : (rcC L)[i]? = some (.string (strOfNums (L[i].2))) := by
  simp [rcC, h]
theorem lk_at {L : List Rec} (hs : Srt L) {i : Nat} (h : i < L.length) : lk L (nth (ks L) i) = some (L[i].2) := by
  refine mem_lk hs.nodup ?_
  have : nth (ks L) i = L[i].1 := by simp [nth, ks, h]
  rw [this]
  exact List.getElem_mem h
/-- Records are neither empty nor longer than 200 bytes. -/
def Few (L : List Rec) : Prop := ∀ p ∈ L, p.2 ≠ [] ∧ p.2.length ≤ 200

set_option maxRecDepth 100000 in
set_option maxHeartbeats 2000000 in
theorem hsame_any {B B1 B2 : Nat} {w : World} {hb k : Nat} {L : List Rec} {vi vr : Value} (hA : HA B w hb (fun j => lk L j) L.length k) (hs : Srt L) (hf : Few L) (hi : Ro 28 B1 w vi (idC L)) (hr : Ro 9 B2 w vr (rcC L)) (hl : L.length ≤ 100) (id : Int) :
    Calls Try.prog 14 #[.pointer (some ⟨hb, 0, none⟩), vi, vr, .int .u64 id] w fun e w' => e = .returned (.bool true) ∧ Below w.heap.size w w' := by
  have HI : Hid _ := hid (idsX_any hA (by omega))
  have HLen : Hid (∀ w', Below w.heap.size w w' → _) := hid (fun w' k => hlen_any (hA.later k))
  have HPg : Hid (∀ w', Below w.heap.size w w' → _) := hid (fun w' k => hpages_any (hA.later k))
  have HG : Hid (∀ w', Below w.heap.size w w' → ∀ (i : Nat) (h : i < L.length), _) := hid (fun w' k i h => hget_any (hA.later k) (nth (ks L) i) (lk_at hs h))
  have HGz : Hid (∀ w', Below w.heap.size w w' → ∃ E : Int, ∃ inn : Bool, decide (id ∈ ks L) = inn ∧ (E = if inn then 0 else 22) ∧ Calls Try.prog 15 #[.pointer (some ⟨hb, 0, none⟩), .int .u64 id] w' fun e w'' => (∃ v, e = .returned (.tuple #[v, .int .i64 E])) ∧ Below w'.heap.size w' w'') := hid (fun w' k => by
    cases hm : lk L id with
    | none =>
      refine ⟨22, false, decide_eq_false (lk_none.1 hm), rfl, Calls.mono (hgetno_any (hA.later k) id hm) ?_⟩
      rintro e w2 ⟨rfl, h⟩
      exact ⟨⟨_, rfl⟩, h⟩
    | some b =>
      refine ⟨0, true, decide_eq_true (lk_key.2 ⟨b, hm⟩), rfl, Calls.mono (hget_any (hA.later k) id hm) ?_⟩
      rintro e w2 ⟨⟨v, rfl, -⟩, h⟩
      exact ⟨⟨v, rfl⟩, h⟩)
  have hIl : Hid (∀ l : List Int, l.length = L.length → (∀ x, x ∈ l ↔ lk L x ≠ none) → (∀ i j, i < j → j < l.length → nth l i ≤ nth l j) → l = ks L) := hid (fun l h1 h2 h3 => same_sorted hs (pw_of h3) (by rw [h1, ks_len]) (fun x => by
    rw [h2, lk_key]
    cases lk L x <;> simp))
  have HIc : Hid (∀ w', Below w.heap.size w w' → ∀ i, i < L.length → ∃ g c, vi = .slice (some ⟨g, 0, none⟩) L.length c ∧ w'.cell? ⟨g, i, none⟩ = some (.int .u64 (nth (ks L) i))) := hid (fun w' k i h => by
    obtain ⟨g, c, e, _, _, _, _, hc⟩ := hi.at (idC_at h)
    rw [idC_len] at e
    exact ⟨g, c, e, cell_later k (hc _ _ (idC_at h))⟩)
  have HRc : Hid (∀ w', Below w.heap.size w w' → ∀ i (h : i < L.length), ∃ g c, vr = .slice (some ⟨g, 0, none⟩) L.length c ∧ w'.cell? ⟨g, i, none⟩ = some (.string (strOfNums (L[i].2)))) := hid (fun w' k i h => by
    obtain ⟨g, c, e, _, _, _, _, hc⟩ := hr.at (rcC_at h)
    rw [rcC_len] at e
    exact ⟨g, c, e, cell_later k (hc _ _ (rcC_at h))⟩)
  obtain ⟨ai, ci, hvi, -, hci, -, -⟩ := hi.sl
  obtain ⟨ar, cr, hvr, -, hcr, -, -⟩ := hr.sl
  rw [idC_len] at hvi
  rw [rcC_len] at hvr
  subst hvi hvr
  have hin : Hid (∀ i, i < L.length → decide (id ∈ (ks L).take (i + 1)) = (decide (id ∈ (ks L).take i) || decide (nth (ks L) i = id))) := hid (fun i h => by
    have hk : i < (ks L).length := by rw [ks_len]; exact h
    have e : nth (ks L) i = (ks L)[i] := by simp [nth, hk]
    have key : id ∈ (ks L).take (i + 1) ↔ id ∈ (ks L).take i ∨ nth (ks L) i = id := by
      rw [List.take_succ_eq_append_getElem hk, List.mem_append, List.mem_singleton, e]
      exact ⟨fun h => h.imp (fun k => k) (fun k => k.symm), fun h => h.imp (fun k => k) (fun k => k.symm)⟩
    rw [decide_eq_decide.2 key, Bool.decide_or])
  have hall : Hid (decide (id ∈ (ks L).take L.length) = decide (id ∈ ks L)) := hid (by rw [List.take_of_length_le (by rw [ks_len]; exact Nat.le_refl _)])
  have hfb : Hid (∀ i (h : i < L.length), L[i].2 ≠ [] ∧ (L[i].2).length ≤ 200) := hid (fun i h => hf _ (List.getElem_mem h))
  have hkl : Hid ((ks L).length = L.length) := hid (ks_len L)
  clear hA hs hi hr hf
  go_enter Try.func14, Try.ntmps14
  go_wp2_with fail
  refine Calls.mono HI.out ?_
  rintro e w1 ⟨⟨v9, l, rfl, hO, hll, hml, hsl⟩, hb1⟩
  have hlk := hIl.out l hll hml hsl
  subst hlk
  clear hml hsl hIl HI
  have HLc : Hid (∀ w', Below w1.heap.size w1 w' → ∀ i, i < L.length → ∃ g c, v9 = .slice (some ⟨g, 0, none⟩) L.length c ∧ w'.cell? ⟨g, i, none⟩ = some (.int .u64 (nth (ks L) i))) := hid (fun w' k i h => by
    have hO2 : Ro 28 w.heap.size w1 v9 (idC L) := by unfold Ro idC; rw [List.length_map]; exact hO
    obtain ⟨g, c, e, _, _, _, _, hc⟩ := hO2.at (idC_at h)
    rw [idC_len] at e
    exact ⟨g, c, e, cell_later k (hc _ _ (idC_at h))⟩)
  obtain ⟨a9, c9, h9, -, hc9⟩ := hO.cellsE
  rw [hkl.out] at h9
  subst h9
  have hP : ∀ Q : Nat → Prop, (∀ p, p ≤ L.length → Q p) → Calls Try.prog 17 #[.pointer (some ⟨hb, 0, none⟩)] w1 fun e w' => (∃ p : Nat, e = .returned (.int .i64 (p : Int)) ∧ Q p) ∧ w' = w1 := fun Q hQ => by
    refine Calls.mono (HPg.out w1 hb1) ?_
    rintro e w2 ⟨⟨p, rfl, hp⟩, rfl⟩
    exact ⟨⟨p, rfl, hQ p hp⟩, rfl⟩
  have hLn : Hid _ := hid (HLen.out w1 hb1)
  have hB1 : Hid (∀ w', Below w1.heap.size w1 w' → Below w.heap.size w w') := hid (fun w' k => bthen hb1 k)
  replace hP : Hid _ := hid hP
  have hb1' : Hid _ := hid hb1
  clear hO hll HPg HLen
  go_upto_region 2 with fail
  go_cut [47] (fun v w' => v = .bool false ∧ w' = w1)
  case first =>
    by_cases h0 : L.length = 0
    · have hP0 : Hid _ := hid (hP.out (fun p => p = 0) (fun p hp => by omega))
      clear hP HIc HRc HLc hfb hall hin HG HGz hB1 hkl
      have g1 : decide ((L.length : Int) + 1 < ((0 : Nat) : Int)) = false := decide_eq_false (by omega)
      have g2 : decide ((L.length : Int) + 1 < 0) = false := decide_eq_false (by omega)
      have g3 : ((L.length : Int) == 0) = true := by rw [beq_iff_eq]; omega
      replace h0 : Hid _ := hid h0
      go_wp2_with (first | (go_at_call 16; refine Calls.mono hLn.out ?_; rintro e w2 ⟨rfl, rfl⟩) | (go_at_call 17; refine Calls.mono hP0.out ?_; rintro e w2 ⟨⟨p, rfl, rfl⟩, rfl⟩) | fail)
      all_goals
        go_meet
        exact ⟨rfl, rfl⟩
    · have g0 : ((L.length : Int) == 0) = false := by rw [beq_eq_false_iff_ne]; omega
      have hP1 : Hid _ := hid (hP.out (fun p => decide ((L.length : Int) + 1 < (p : Int)) = false) (fun p hp => decide_eq_false (by omega)))
      clear hP HIc HRc HLc hfb hall hin HG HGz hB1 hkl
      go_wp2_with (first | (go_at_call 16; refine Calls.mono hLn.out ?_; rintro e w2 ⟨rfl, rfl⟩) | (go_at_call 17; refine Calls.mono hP1.out ?_; rintro e w2 ⟨⟨p, rfl, hpg⟩, rfl⟩) | fail)
      all_goals
        go_meet
        exact ⟨rfl, rfl⟩
  case rest =>
    obtain ⟨rfl, hw1⟩ := hcut
    obtain ⟨wx, rfl⟩ : ∃ wx : World, wx = wc := ⟨_, rfl⟩
    subst hw1
    clear hP hLn
    go_wp2
    go_loopw [10, 11] (fun inv iv wr => ∃ (i : Nat) (inn : Bool), i ≤ L.length ∧ iv = .int .i64 (i : Int) ∧ inv = .bool inn ∧ Hid (decide (id ∈ (ks L).take i) = inn) ∧ Below wx.heap.size wx wr) (fun inv iv wr => L.length - (intOf iv).toNat)
    case atStart => exact ⟨0, false, Nat.zero_le _, rfl, rfl, by simp [Hid], Below.refl _ _⟩
    case round =>
      obtain ⟨i, inn, hi, rfl, rfl, hinn, hB⟩ := hrel
      by_cases hlt : i < L.length
      · have hBw := hB1.out _ hB
        have HGi := HG.out _ hBw i hlt
        obtain ⟨g1, c1, e1, k1⟩ := HIc.out _ hBw i hlt
        cases e1
        obtain ⟨hne, h200⟩ := hfb.out i hlt
        obtain ⟨bs, hbs⟩ : ∃ bs, L[i].2 = bs := ⟨_, rfl⟩
        rw [hbs] at HGi hne h200
        replace HGi : Hid _ := hid HGi
        have hlt2 : (i : Int) < (L.length : Int) := by omega
        have hi2 : i ≤ 100 := by omega
        go_wp2_with fail
        refine Calls.mono HGi.out ?_
        rintro e w2 ⟨⟨v12, rfl, hv⟩, hb2⟩
        have hB2 := bthen hB hb2
        have hBw2 := hB1.out _ hB2
        clear HGi k1
        obtain ⟨g1', c1', e1, k1⟩ := HIc.out _ hBw2 i hlt
        cases e1
        obtain ⟨g2, c2, e2, k2⟩ := HRc.out _ hBw2 i hlt
        cases e2
        rw [hbs] at k2
        obtain ⟨g3, c3, e3, k3⟩ := HLc.out _ hB2 i hlt
        cases e3
        obtain ⟨ao, cc, ev, rd2, hao⟩ := hv.blk
        rcases hv.2 with ⟨_, hz⟩ | ⟨x, c4, cur, ev2, x0, x1, x2, x3, x4, -⟩
        · exact absurd (List.eq_nil_of_length_eq_zero hz) hne
        · subst ev
          cases ev2
          have hx5 : wx.heap.size ≤ x := Nat.le_trans hB.size x0
          have cv1 : ∀ nq, (convert 31 9 (.slice (some ⟨x, 0, none⟩) bs.length cc)).run Try.prog (w2.drewN nq) = .ok (.string (strOfNums bs)) (w2.drewN nq) := fun nq => conv_rd (rd2.later (below_drewN (Below.refl _ _) nq))
          obtain ⟨S, hS⟩ : ∃ S, strOfNums bs = S := ⟨_, rfl⟩
          rw [hS] at cv1 k2
          have HSP : Hid (∀ nq, _) := hid (fun nq => spoil_any (w := w2.drewN nq) (g := x) (n := bs.length) (cap := cc) (cur := cur) x1 (by omega) x2 (by simpa [maxLen] using x3))
          have hBq : Hid (∀ nq w', Rest x (w2.drewN nq) w' → Below wx.heap.size wx w') := hid (fun nq w' hr => Rest.below (below_drewN hB2 nq) hr hx5 (by have := hB2.size; exact this))
          obtain ⟨y, hy⟩ : ∃ y, nth (ks L) i = y := ⟨_, rfl⟩
          rw [hy] at k1 k3
          have hin2 := hin.out i hlt
          rw [hinn.out, hy] at hin2
          replace hin2 : Hid _ := hid hin2
          have hy' : Hid _ := hid hy
          obtain ⟨bl, hbl⟩ : ∃ bl, bs.length = bl := ⟨_, rfl⟩
          rw [hbl] at cv1 HSP h200 ⊢
          have hB2' : Hid _ := hid hB2
          clear hv rd2 hao x0 x1 x2 x3 x4 hS hbs hne hbl hBw hBw2 hB hb2 hinn hy hB2
          go_wp2
          go_quiet (fail)
          have k1q : ∀ nq, (w2.drewN nq).cell? ⟨g1, i, none⟩ = some (.int .u64 y) := fun nq => k1
          clear cv1 k2 k3
          go_wp2_with fail
          refine Calls.mono (HSP.out _) ?_
          rintro e w5 ⟨rfl, hr5⟩
          have hB5 := hBq.out _ _ hr5
          obtain ⟨g5, c5, e5, k5⟩ := HIc.out _ (hB1.out _ hB5) i hlt
          cases e5
          replace hB5 : Hid _ := hid hB5
          clear HSP hBq hr5 k1 k1q
          cases inn with
          | true =>
            go_wp2
            go_roundw
            case rel => exact ⟨i + 1, true, hlt, by go_num, rfl, by rw [Hid, hin2.out]; rfl, hB5.out⟩
            case measure => simp only [intOf]; omega
          | false =>
            go_wp2
            go_roundw
            case rel => exact ⟨i + 1, _, hlt, by go_num, rfl, by rw [Hid, hin2.out, hy'.out, Bool.false_or]; rfl, hB5.out⟩
            case measure => simp only [intOf]; omega
      · obtain rfl : i = L.length := by omega
        have hBw := hB1.out _ hB
        obtain ⟨E, inn2, h1, h2, h3⟩ := HGz.out _ hBw
        rw [← hall.out, hinn.out] at h1
        subst h1
        replace h3 : Hid _ := hid h3
        replace hB : Hid _ := hid hBw
        clear HGz hall hin hfb HG HIc HRc HLc
        cases inn with
        | true =>
          simp only [if_true] at h2
          subst h2
          go_wp2_with fail
          refine Calls.mono h3.out ?_
          rintro e w2 ⟨⟨v, rfl⟩, hb2⟩
          clear h3
          go_wp2
          go_ret
          exact ⟨rfl, bthen hB.out hb2⟩
        | false =>
          simp only [Bool.false_eq_true, if_false] at h2
          subst h2
          go_wp2_with fail
          refine Calls.mono h3.out ?_
          rintro e w2 ⟨⟨v, rfl⟩, hb2⟩
          clear h3
          go_wp2
          go_ret
          exact ⟨rfl, bthen hB.out hb2⟩

end Go.Proofs.Ytmfoenhbldacfaa
