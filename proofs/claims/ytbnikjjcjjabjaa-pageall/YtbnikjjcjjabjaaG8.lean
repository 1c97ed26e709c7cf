/- Does the page say what the list of records says? -/
import Derived.Test.YtbnikjjcjjabjaaG7
import Derived.Test.YtbnikjjcjjabjaaG2
namespace Go.Proofs.Ytbnikjjcjjabjaa
open Go.RowKit
set_option linter.unusedVariables false

theorem prs_pre (R : List (List Int)) {s : Nat} (hs : rc R s ≠ []) : ∀ k, s < k → ∃ t, prs R k = prs R s ++ s :: t
  | 0, h => by omega
  | k + 1, h => by
    by_cases e : s = k
    · subst e
      exact ⟨[], by rw [prs_succ, if_neg hs]⟩
    · obtain ⟨t, ht⟩ := prs_pre R hs k (by omega)
      by_cases e2 : rc R k = []
      · exact ⟨t, by rw [prs_succ, if_pos e2, ht]⟩
      · exact ⟨t ++ [k], by rw [prs_succ, if_neg e2, ht]; simp⟩
theorem prI_mid (R : List (List Int)) {s : Nat} (hs : rc R s ≠ []) (hl : s < R.length) : (prs R s).length < (prI R R.length).length ∧ nth (prI R R.length) (prs R s).length = (s : Int) := by
  obtain ⟨t, ht⟩ := prs_pre R hs _ hl
  have e : prI R R.length = (prs R s).map (fun (s : Nat) => (s : Int)) ++ (s : Int) :: t.map (fun (s : Nat) => (s : Int)) := by rw [prI, ht]; simp
  rw [e]
  refine ⟨by simp, ?_⟩
  rw [nth, List.getElem?_append_right (by simp)]
  simp
theorem prs_no {R : List (List Int)} {j : Nat} (h : hasZ R ((j : Int) - 1) = false) : prs R (j + 1 - 1) = prs R (j - 1) := by
  cases j with
  | zero => rfl
  | succ m =>
    have e : ((m + 1 : Nat) : Int) - 1 = (m : Int) := by omega
    rw [e, hasZ_nat] at h
    have h2 : rc R m = [] := by simpa using h
    show prs R (m + 1) = prs R m
    rw [prs_succ, if_pos h2]

theorem bytesM {W w : World} {g : Nat} {R : List (List Int)} (hw : My W w g R) : Calls Try.prog 22 #[.pointer (some ⟨g, 0, none⟩)] w fun e w' => (∃ a c, e = .returned (.slice a 256 c)) ∧ Below w.heap.size w w' := by
  obtain ⟨B, p⟩ := hw.pg
  refine Calls.mono (bytes_any p) ?_
  rintro e w' ⟨⟨v, rfl, ho⟩, hb⟩
  obtain ⟨a, c, rfl, -, -⟩ := ho.blk
  exact ⟨⟨a, c, by rw [p.iv.len]⟩, hb⟩
theorem getM_no {W w : World} {g : Nat} {R : List (List Int)} (hw : My W w g R) {z : Int} (hz : hasZ R z = false) : Calls Try.prog 20 #[.pointer (some ⟨g, 0, none⟩), .int .i64 z] w fun e w' => e = .returned (.tuple #[.slice none 0 0, .int .i64 22]) ∧ Below w.heap.size w w' := by
  obtain ⟨B, p⟩ := hw.pg
  exact get_no p z hz
theorem getM_any {W w : World} {g : Nat} {R : List (List Int)} (hw : My W w g R) {s : Nat} (hs : rc R s ≠ []) : Calls Try.prog 20 #[.pointer (some ⟨g, 0, none⟩), .int .i64 (s : Int)] w fun e w' => ∃ x c, ∃ cur : Array Value, e = .returned (.tuple #[.slice (some ⟨x, 0, none⟩) (rc R s).length c, .int .i64 0]) ∧ w.heap.size ≤ x ∧ w'.heap[x]? = some (.cells cur 5 (0, 0)) ∧ cur.size = c ∧ (rc R s).length ≤ c ∧ c ≤ 9223372036854775807 ∧ Rd .u8 w' (some ⟨x, 0, none⟩) (rc R s).length c (rc R s) ∧ Below w.heap.size w w' := by
  obtain ⟨B, p⟩ := hw.pg
  refine Calls.mono (get_any p s hs) ?_
  rintro e w' ⟨⟨v, rfl, ho⟩, hb⟩
  obtain ⟨a, c, rfl, hrd, -⟩ := ho.blk
  rcases ho.2 with ⟨e1, e2⟩ | ⟨x, cap, cur, e1, e2, e3, e4, e5, e6, -⟩
  · exact absurd (List.eq_nil_of_length_eq_zero e2) hs
  · cases e1
    exact ⟨x, c, cur, rfl, e2, e3, by omega, e4, by simpa [maxLen] using e5, hrd, hb⟩
theorem rest_below {B x : Nat} {a w w' : World} (h : Below B a w) (hr : Rest x w w') (hx : B ≤ x) (hw : B ≤ w.heap.size) : Below B a w' := Rest.below h hr hx hw

set_option maxRecDepth 100000 in
set_option maxHeartbeats 1000000 in
theorem same_any {W w : World} {g q : Nat} {R : List (List Int)} {bad : Nat → Prop} (hm : My W w g R) (hs : Sl W.heap.size W w q R bad) (hRb : ∀ i, i < R.length → (rc R i).length ≤ 200) :
    Calls Try.prog 18 #[.pointer (some ⟨g, 0, none⟩), .pointer (some ⟨q, 0, none⟩)] w fun e w' => e = .returned (.bool true) ∧ Below w.heap.size w w' := by
  have hSL : Hid _ := my_slots w hm
  obtain ⟨f0, f1, hl62⟩ := hm.fr
  have hRb2 : ∀ i, i < R.length → (rc R i).length ≤ 1000 := fun i hi => by have := hRb i hi; omega
  have HFS : Hid (∀ w', Below w.heap.size w w' → _) := fun w' hb => freeS_any (hs.later hb) (by omega) hRb2
  have HS : Hid (∀ w', Below w.heap.size w w' → Sl W.heap.size W w' q R bad) := fun w' hb => hs.later hb
  have HH : Hid (∀ w', Below w.heap.size w w' → ∀ z, _) := fun w' hb z => hasS_any (hs.later hb) z
  have hmid : Hid (∀ s, rc R s ≠ [] → s < R.length → _) := fun s h1 h2 => prI_mid R h1 h2
  have hno : Hid (∀ j : Nat, hasZ R ((j : Int) - 1) = false → _) := fun j h => prs_no h
  have hyes : Hid (∀ s, rc R s ≠ [] → prs R (s + 1) = prs R s ++ [s]) := fun s h => by rw [prs_succ, if_neg h]
  have hend : Hid ((prs R (R.length + 1)).length = (prI R R.length).length) := by rw [Hid, prs_succ, if_pos (rc_out (Nat.le_refl _)), prI, List.length_map]
  have hll := prI_len R R.length
  obtain ⟨n, hn⟩ : ∃ n, R.length = n := ⟨_, rfl⟩
  rw [hn] at hSL hl62 hmid hend hll
  obtain ⟨L, hL⟩ : ∃ L, prI R n = L := ⟨_, rfl⟩
  rw [hL] at hSL hmid hend hll
  obtain ⟨l, hl⟩ : ∃ l, L.length = l := ⟨_, rfl⟩
  rw [hl] at hSL hmid hend hll
  replace hn : Hid _ := hn
  obtain ⟨fz, hfz⟩ : ∃ fz, freeR R = fz := ⟨_, rfl⟩
  rw [hfz] at HFS f0 f1
  replace hfz : Hid _ := hfz
  have hrl : Hid (∀ s, rc R s ≠ [] → s < n) := fun s h => by have := rc_lt h; have := hn.out; omega
  have hrb : Hid (∀ s, rc R s ≠ [] → (rc R s).length ≤ 200) := fun s h => hRb s (rc_lt h)
  have hpl : Hid (∀ k, (prs R k).length ≤ k) := fun k => prs_len R k
  clear hL hl hRb hRb2 hs
  go_enter Try.func18, Try.ntmps18
  go_wp2_with fail
  refine Calls.mono hSL.out ?_
  rintro e w1 ⟨la, lc, rfl, hrd, m1, hb1⟩
  have M1 : Hid (∀ w', Below w1.heap.size w1 w' → My W w' g R) := fun w' hb => m1.later hb
  have R1 : Hid (∀ w', Below w1.heap.size w1 w' → Rd .i64 w' la l lc L) := fun w' hb => hrd.later hb
  have B1 : Hid (∀ w', Below w1.heap.size w1 w' → Below w.heap.size w w') := fun w' hb => bthen hb1 hb
  clear hSL hm m1 hrd hb1
  go_wp2
  go_loopw [6, 7] (fun nv kv wr => ∃ j : Nat, j ≤ n + 2 ∧ kv = .int .i64 ((j : Int) - 1) ∧ nv = .int .i64 ((prs R (j - 1)).length : Int) ∧ Below w1.heap.size w1 wr) (fun nv kv wr => (n + 2) - (intOf kv + 1).toNat)
  case atStart => exact ⟨0, by omega, rfl, rfl, Below.refl _ _⟩
  case round =>
    obtain ⟨j, hj, rfl, rfl, hB⟩ := hrel
    have hBw := B1.out _ hB
    obtain ⟨ao, c, hc, -, -, hlc, hcm, hcell⟩ := (HS.out _ hBw).cells
    rw [hn.out] at hc hlc hcell
    by_cases hjn : j ≤ n + 1
    · obtain ⟨k, hk⟩ : ∃ k, (j : Int) - 1 = k := ⟨_, rfl⟩
      have hk1 : k ≤ (n : Int) := by omega
      have hk2 : k ≤ 62 := by omega
      have hk3 : -1 ≤ k := by omega
      have hk4 : Hid ((k + 1).toNat = j) := by rw [Hid]; omega
      cases hz : hasZ R k with
      | false =>
        have hG : Hid _ := getM_no (M1.out _ hB) hz
        have hp : prs R (j + 1 - 1) = prs R (j - 1) := hno.out j (by rw [hk]; exact hz)
        replace hp : Hid _ := hp
        rw [hk]
        obtain ⟨N, hN⟩ : ∃ N, (prs R (j - 1)).length = N := ⟨_, rfl⟩
        rw [hN]
        have hkr : Hid (k + 1 = ((j + 1 : Nat) : Int) - 1) := by rw [Hid]; omega
        clear hcell hk
        go_wp2_with fail
        refine Calls.mono hG.out ?_
        rintro e w2 ⟨rfl, hb2⟩
        have hB2 := bthen hB hb2
        have hHz := HH.out _ (B1.out _ hB2) k
        rw [hz] at hHz
        replace hHz : Hid _ := hHz
        clear hG hb2
        go_wp2_with fail
        refine Calls.mono hHz.out ?_
        rintro e w3 ⟨rfl, rfl⟩
        clear hHz hc
        go_wp2
        go_roundw
        case rel => exact ⟨j + 1, by omega, by rw [← hkr.out], by rw [hp.out, hN], hB2⟩
        case measure => simp only [intOf]; omega
      | true =>
        obtain ⟨s, rfl, hs⟩ := hasZ_is hz
        obtain rfl : j = s + 1 := by omega
        obtain ⟨hm1, hm2⟩ := hmid.out s hs (hrl.out s hs)
        have hsn := hrl.out s hs
        have hbl := hrb.out s hs
        rw [show s + 1 - 1 = s from by omega, hk]
        have hnx : Hid ((prs R (s + 1 + 1 - 1)).length = (prs R s).length + 1) := by rw [Hid, show s + 1 + 1 - 1 = s + 1 from by omega, hyes.out s hs, List.length_append]; rfl
        have hG : Hid _ := getM_any (M1.out _ hB) hs
        have hpn := hpl.out s
        obtain ⟨N, hN⟩ : ∃ N, (prs R s).length = N := ⟨_, rfl⟩
        rw [hN] at hm1 hm2 hnx hpn ⊢
        obtain ⟨bl, hbl2⟩ : ∃ bl, (rc R s).length = bl := ⟨_, rfl⟩
        rw [hbl2] at hbl hG
        have hkr : Hid ((s : Int) + 1 = ((s + 1 + 1 : Nat) : Int) - 1) := by rw [Hid]; omega
        have hsz : Hid (rc R s ≠ []) := hs
        have hzz : Hid (hasZ R (s : Int) = true) := hz
        have hs3 : s ≤ 62 := by omega
        clear hcell hk hz hs hN hj hjn hk1 hk2 hk3 hk4 hlc
        go_wp2_with fail
        refine Calls.mono hG.out ?_
        rintro e w2 ⟨x, c2, cur, rfl, hx0, hx1, hx2, hx3, hx4, rd2, hb2⟩
        have hB2 := bthen hB hb2
        have hx5 : w1.heap.size ≤ x := Nat.le_trans hB.size hx0
        have hHz := HH.out _ (B1.out _ hB2) s
        rw [hzz.out] at hHz
        replace hHz : Hid _ := hHz
        clear hG hb2 hc
        obtain ⟨ao2, c3, hc2, -, -, hlc2, hcm2, hcell2⟩ := (HS.out _ (B1.out _ hB2)).cells
        rw [hn.out] at hc2 hlc2 hcell2
        obtain ⟨r, rfl, hrr⟩ := hcell2 (by omega)
        obtain ⟨u, hu, hbv⟩ := hrr s hsn
        obtain ⟨y, rfl, hy⟩ : ∃ y, u = .slice (some ⟨y, 0, none⟩) bl bl ∧ Bx8 W w2 y (rc R s) := by
          rcases hbv with ⟨e, -⟩ | ⟨-, y, e, hy, -⟩
          · exact absurd e hsz.out
          · exact ⟨y, by rw [e, hbl2], hy⟩
        have cv1 : ∀ nq, (convert 32 9 (.slice (some ⟨x, 0, none⟩) bl c2)).run Try.prog (w2.drewN nq) = .ok (.string (strOfNums (rc R s))) (w2.drewN nq) := fun nq => conv_rd (rd2.later (below_drewN (Below.refl _ _) nq))
        have cv2 : ∀ nq, (convert 32 9 (.slice (some ⟨y, 0, none⟩) bl bl)).run Try.prog (w2.drewN nq) = .ok (.string (strOfNums (rc R s))) (w2.drewN nq) := fun nq => conv_rd ((hy.rd hbl2 (by omega)).later (below_drewN (Below.refl _ _) nq))
        obtain ⟨S, hS⟩ : ∃ S, strOfNums (rc R s) = S := ⟨_, rfl⟩
        rw [hS] at cv1 cv2
        obtain ⟨b3, o3, rfl, hcl⟩ := (R1.out _ hB2).cells (by omega)
        have hcN := hcl N hm1
        rw [hm2] at hcN
        have HSP : Hid (∀ nq, _) := fun nq => spoil_any (w := w2.drewN nq) (g := x) (n := bl) (cap := c2) (cur := cur) hx1 hx2 hx3 hx4
        have hBq : Hid (∀ nq w', Rest x (w2.drewN nq) w' → Below w1.heap.size w1 w') := fun nq w' hr => rest_below (below_drewN hB2 nq) hr hx5 (by have := hB2.size; exact this)
        have g1 : decide ((l : Int) ≤ (N : Int)) = false := decide_eq_false (by omega)
        have g2 : ¬ (l : Int) ≤ (N : Int) := by omega
        have g3 : decide (l ≤ N) = false := decide_eq_false (by omega)
        have g4 : (s : Int) < (n : Int) := by omega
        have g5 : (N : Int) < (l : Int) := by omega
        have g6 : N ≤ 62 := by omega
        clear hcl hrr hcell2 hbv rd2 hx1 hx2 hy hS hm2 hbl2 hB2
        go_wp2_with fail
        refine Calls.mono hHz.out ?_
        rintro e w3 ⟨rfl, rfl⟩
        clear hHz
        go_wp2
        go_quiet (fail)
        clear cv1 cv2 hcN hu hc2
        go_wp2_with fail
        refine Calls.mono (HSP.out _) ?_
        rintro e w5 ⟨rfl, hr5⟩
        have hB5 : Hid _ := hBq.out _ _ hr5
        clear HSP hBq hr5
        go_wp2
        go_roundw
        case rel => exact ⟨s + 1 + 1, by omega, by rw [← hkr.out], by rw [hnx.out]; go_num, hB5.out⟩
        case measure => simp only [intOf]; omega
    · obtain rfl : j = n + 2 := by omega
      rw [show n + 2 - 1 = n + 1 from by omega, hend.out]
      have g1 : ¬ ((n + 2 : Nat) : Int) - 1 ≤ (n : Int) := by omega
      have g2 : decide (((n + 2 : Nat) : Int) - 1 ≤ (n : Int)) = false := decide_eq_false g1
      obtain ⟨k, hk⟩ : ∃ k, ((n + 2 : Nat) : Int) - 1 = k := ⟨_, rfl⟩
      rw [hk] at g1 g2 ⊢
      have HF : Hid _ := my_free wr (M1.out _ hB)
      rw [hfz.out] at HF
      clear hcell hk
      go_wp2_with fail
      refine Calls.mono HF.out ?_
      rintro e w2 ⟨rfl, -, hb2⟩
      have hB2 := bthen hB hb2
      clear HF hb2 hc
      go_wp2_with fail
      refine Calls.mono (HFS.out _ (B1.out _ hB2)) ?_
      rintro e w3 ⟨rfl, rfl⟩
      have HY : Hid _ := bytesM (M1.out _ hB2)
      go_wp2_with fail
      refine Calls.mono HY.out ?_
      rintro e w4 ⟨⟨ya, yc, rfl⟩, hb4⟩
      have hB4 : Hid _ := B1.out _ (bthen hB2 hb4)
      clear HY hb4 HFS
      go_wp2
      go_ret
      exact ⟨rfl, hB4.out⟩

end Go.Proofs.Ytbnikjjcjjabjaa
