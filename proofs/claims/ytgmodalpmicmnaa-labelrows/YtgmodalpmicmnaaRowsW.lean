/- The walk of 'LabelRows': labels that stand in a row are taken one by one; it answers true at whatever list of lists of tags; nothing is turned. -/
import Derived.Test.YtgmodalpmicmnaaBytes
namespace Go.Proofs.Ytgmodalpmicmnaa
open Go.RowKit
set_option linter.unusedVariables false

/-- A slice of slices of tags that may be read. -/
structure RdRows (w : World) (ao : Option Addr) (n c : Nat) (A : Nat → Option Addr) (L C : Nat → Nat) (X : Nat → List Int) : Prop where
  cap : n ≤ c
  max : c ≤ 9223372036854775807
  cells : 0 < n → ∃ b o, ao = some ⟨b, o, none⟩ ∧ ∀ i, i < n → w.cell? ⟨b, o + i, none⟩ = some (.slice (A i) (L i) (C i))
  rows : ∀ i, i < n → Rd .u16 w (A i) (L i) (C i) (X i) ∧ U16 (X i)

/-- The bytes of the first k labels. -/
def catP (X : Nat → List Int) : Nat → List Int
  | 0 => []
  | k + 1 => catP X k ++ putL (X k)

/-- The bytes of m labels, from the k-th on. -/
def sufP (X : Nat → List Int) : Nat → Nat → List Int
  | 0, _ => []
  | m + 1, k => putL (X k) ++ sufP X m (k + 1)

theorem cat_suf (X : Nat → List Int) : ∀ (m k : Nat), catP X (k + m) = catP X k ++ sufP X m k := by
  intro m
  induction m with
  | zero => intro k; simp [sufP]
  | succ m ih =>
    intro k
    rw [show k + (m + 1) = k + 1 + m from by omega, ih (k + 1), catP, sufP, List.append_assoc]

theorem cat_all (X : Nat → List Int) (n : Nat) : catP X n = sufP X n 0 := by
  have := cat_suf X n 0
  rw [Nat.zero_add] at this
  rw [this]; rfl

theorem catP_len {X : Nat → List Int} {k : Nat} (h : ∀ i, i < k → (X i).length ≤ 8) : (catP X k).length ≤ 17 * k := by
  induction k with
  | zero => simp [catP]
  | succ k ih =>
    rw [catP, List.length_append, putL_len]
    have := ih fun i hi => h i (by omega)
    have := h k (by omega)
    omega

theorem sufP_u8 {X : Nat → List Int} : ∀ {m k : Nat}, (∀ i, k ≤ i → i < k + m → U16 (X i) ∧ (X i).length ≤ 8) → ∀ x ∈ sufP X m k, 0 ≤ x ∧ x ≤ 255 := by
  intro m
  induction m with
  | zero => intro k _ x hx; simp [sufP] at hx
  | succ m ih =>
    intro k h x hx
    rw [sufP, List.mem_append] at hx
    rcases hx with hx | hx
    · exact putL_u8 (h k (by omega) (by omega)).1 (h k (by omega) (by omega)).2 x hx
    · exact ih (fun i h1 h2 => h i (by omega) (by omega)) x hx

set_option maxRecDepth 100000 in
set_option maxHeartbeats 4000000 in
theorem rows_any (ao : Option Addr) (n c : Nat) (A : Nat → Option Addr) (L C : Nat → Nat) (X : Nat → List Int) (w : World) (h : RdRows w ao n c A L C X) :
    Calls Try.prog 8 #[.slice ao n c] w fun e w' => e = .returned (.bool true) ∧ Below w.heap.size w w' := by
  have hcap := h.cap
  have hmax := h.max
  go_enter Try.func8, Try.ntmps8
  go_wp2_with fail
  refine Calls.mono (begun_any w) ?_
  rintro e w1 ⟨rfl, hb1⟩
  by_cases h20 : 20 < n
  · go_wp2
    go_ret
    exact ⟨rfl, hb1⟩
  go_wp2
  go_loopw [3, 4] (fun v i wr => ∃ k p q : Nat, ∃ oo : Option Addr, k ≤ n ∧ i = .int .i64 k ∧ v = .slice oo p q ∧ Rd .u8 wr oo p q (catP X k) ∧ Below w.heap.size w wr ∧ Hid (∀ j, j < k → mayB (X j) = true)) (fun _ i _ => n - (intOf i).toNat)
  case atStart => exact ⟨0, 0, 0, none, by omega, rfl, rfl, Rd.nil _ _, hb1, fun j hj => by omega⟩
  case round =>
    obtain ⟨k, p, q, oo, hk, rfl, rfl, hR, hB, HM⟩ := hrel
    clear hb1
    by_cases hlt : k < n
    · obtain ⟨b, o, rfl, hc⟩ := h.cells (by omega)
      obtain ⟨hX, hU⟩ := h.rows k hlt
      have hck := cell_later hB (hc k hlt)
      obtain ⟨Ak, hAk⟩ : ∃ a, a = A k := ⟨_, rfl⟩
      obtain ⟨Lk, hLk⟩ : ∃ a, a = L k := ⟨_, rfl⟩
      obtain ⟨Ck, hCk⟩ : ∃ a, a = C k := ⟨_, rfl⟩
      rw [← hAk, ← hLk, ← hCk] at hX hck
      clear hAk hLk hCk
      cases em : mayB (X k) with
      | false =>
        go_wp2_with fail
        refine Calls.mono (refMay_b Ak Lk Ck (X k) wr (hX.later hB)) ?_
        rintro e w2 ⟨rfl, hb2⟩
        go_wp2
        go_ret
        exact ⟨rfl, hB.trans (hb2.mono hB.size)⟩
      | true =>
        have hl8 := (mayB_true em).2
        have hlk := hX.len
        have hcl := catP_len (X := X) (k := k) fun i hi => (mayB_true (HM.out i hi)).2
        have hpl := hR.len
        go_wp2_with fail
        refine Calls.mono (refMay_b Ak Lk Ck (X k) wr (hX.later hB)) ?_
        rintro e w2 ⟨rfl, hb2⟩
        have hB2 : Below w.heap.size w w2 := hB.trans (hb2.mono hB.size)
        have hck2 := cell_later hb2 hck
        have HM2 : Hid (∀ j, j < k + 1 → mayB (X j) = true) := fun j hj => by
          rcases (by omega : j < k ∨ j = k) with e | e
          · exact HM.out j e
          · rw [e]; exact em
        go_wp2_with fail
        refine Calls.mono (put_rd oo Ak p q Lk Ck (catP X k) (X k) w2 (hR.later hb2) (hX.later hB2) (by omega) (by omega) hU) ?_
        rintro e w3 ⟨o3, p3, q3, rfl, hR3, hb3⟩
        clear em
        go_wp2
        go_roundw
        case rel => exact ⟨k + 1, p3, q3, o3, by omega, by go_num, rfl, hR3, hB2.trans (hb3.mono hB2.size), HM2⟩
        case measure => simp only [intOf]; omega
    · obtain rfl : k = n := by omega
      rw [cat_all] at hR
      obtain ⟨wo, hwo⟩ : ∃ wo : World, wo = wr := ⟨_, rfl⟩
      subst hwo
      go_wp2
      go_loopw [3, 5] (fun v i wr => ∃ j p q : Nat, ∃ oo : Option Addr, j ≤ k ∧ i = .int .i64 j ∧ v = .slice oo p q ∧ Rd .u8 wr oo p q (sufP X (k - j) j) ∧ Below w.heap.size w wr) (fun _ i _ => k - (intOf i).toNat)
      case atStart => exact ⟨0, p, q, oo, by omega, rfl, rfl, hR, hB⟩
      case round =>
        clear hR hB
        obtain ⟨j, p, q, oo, hj, rfl, rfl, hR, hB⟩ := hrel
        by_cases hlt : j < k
        · obtain ⟨b, o, rfl, hc⟩ := h.cells (by omega)
          obtain ⟨hX, hU⟩ := h.rows j hlt
          have hck := cell_later hB (hc j hlt)
          obtain ⟨Ak, hAk⟩ : ∃ a, a = A j := ⟨_, rfl⟩
          obtain ⟨Lk, hLk⟩ : ∃ a, a = L j := ⟨_, rfl⟩
          obtain ⟨Ck, hCk⟩ : ∃ a, a = C j := ⟨_, rfl⟩
          rw [← hAk, ← hLk, ← hCk] at hX hck
          clear hAk hLk hCk
          obtain ⟨hr8, hl8⟩ := mayB_true (HM.out j hlt)
          have hu8 := sufP_u8 (X := X) (m := k - j) (k := j) fun i h1 h2 => ⟨(h.rows i (by omega)).2, (mayB_true (HM.out i (by omega))).2⟩
          rw [show k - j = (k - (j + 1)) + 1 from by omega, sufP] at hR hu8
          obtain ⟨S, hS⟩ : ∃ S, S = sufP X (k - (j + 1)) (j + 1) := ⟨_, rfl⟩
          rw [← hS] at hR hu8
          have HS : Hid (S = sufP X (k - (j + 1)) (j + 1)) := hS
          clear hS
          have hRl := hR.len
          have hRc := hR.cap
          have hRm := hR.max
          rw [List.length_append] at hRl
          have hpl := putL_len (X j)
          obtain ⟨N, hN⟩ : ∃ N, N = (putL (X j)).length := ⟨_, rfl⟩
          have hN1 : 1 ≤ N := by omega
          have hN2 : N ≤ p := by omega
          have HTk := take_any oo p q _ wr hR hu8
          rw [takeE_put hU hl8 hr8, takeT_put hU hl8 hr8, takeN_put hU hl8 hr8, ← hN] at HTk
          replace HTk : Hid _ := HTk
          obtain ⟨bb, ob, rfl, -⟩ := hR.cells (by omega)
          have HD : Hid ((putL (X j) ++ S).drop N = S) := by rw [Hid, hN, List.drop_left]
          have HSl : Hid (S.length = p - N) := by rw [Hid]; omega
          clear hRl hpl hN hu8 hr8
          go_wp2_with fail
          refine Calls.mono HTk.out ?_
          rintro e w2 ⟨o2, p2, q2, rfl, h2, hb2⟩
          have hB2 : Below w.heap.size w w2 := hB.trans (hb2.mono hB.size)
          have hck2 := cell_later hb2 hck
          have HSm := same_any o2 Ak p2 q2 Lk Ck (X j) (X j) w2 h2 (hX.later hB2)
          rw [sameB_self] at HSm
          replace HSm : Hid _ := HSm
          go_wp2_with fail
          refine Calls.mono HSm.out ?_
          rintro e w3 ⟨rfl, hb3⟩
          have hB3 : Below w.heap.size w w3 := hB2.trans (hb3.mono hB2.size)
          have hR3 := (hR.later hb2).later hb3
          have hsub : ∀ ao dd, dd = q - N → (0 < p - N → ao = some ⟨bb, ob + N, none⟩) → ao ≠ none → Rd .u8 w3 ao (p - N) dd S := fun ao dd h1 h2 h3 => by
            have := hR3.sub (lo := N) (hi := p) hN2 (Nat.le_refl _) ao (p - N) dd rfl h1 h2 h3
            rw [HD.out, List.take_of_length_le (by rw [HSl.out]; exact Nat.le_refl _)] at this
            exact this
          clear HTk HSm hb2 hb3 hR3
          go_wp2
          all_goals
            go_roundw
            case rel =>
              refine ⟨j + 1, _, _, _, by omega, by go_num, rfl, ?_, hB3⟩
              rw [← HS.out]
              exact hsub _ _ (by omega) (fun hp => by first | rfl | omega | (rw [if_neg (by omega)])) (by first | exact Option.some_ne_none _ | (split <;> simp))
            case measure => simp only [intOf]; omega
        · obtain rfl : j = k := by omega
          rw [Nat.sub_self] at hR
          have hp0 : p = 0 := hR.len.symm
          subst hp0
          go_wp2
          go_ret
          exact ⟨rfl, hB⟩

end Go.Proofs.Ytgmodalpmicmnaa
