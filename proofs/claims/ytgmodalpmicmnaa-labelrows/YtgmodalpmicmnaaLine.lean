/- The walk of 'LabelLine': it answers true at every three labels, and at whatever else; nothing is turned. -/
import Derived.Test.YtgmodalpmicmnaaText
import Derived.Test.YtgmodalpmicmnaaLattice
import Derived.Deep.RegionWith
namespace Go.Proofs.Ytgmodalpmicmnaa
open Go.RowKit
set_option linter.unusedVariables false

theorem lexI_vals : ∀ (A B : List Int), lexI A B = -1 ∨ lexI A B = 0 ∨ lexI A B = 1 := by
  intro A
  induction A with
  | nil => intro B; cases B <;> simp [lexI]
  | cons x r ih =>
    intro B
    cases B with
    | nil => simp [lexI]
    | cons y q =>
      rw [lexI]
      split
      · simp
      · split
        · simp
        · exact ih q

theorem cmpL_vals (A B : List Int) : cmpL A B = -1 ∨ cmpL A B = 0 ∨ cmpL A B = 1 := by
  rw [cmpL]
  split
  · simp
  · split
    · simp
    · exact lexI_vals A B

theorem lexI_neg : ∀ (A B : List Int), A.length = B.length → lexI B A = -lexI A B := by
  intro A
  induction A with
  | nil => intro B h; cases B with
    | nil => rfl
    | cons y q => simp at h
  | cons x r ih =>
    intro B h
    cases B with
    | nil => simp at h
    | cons y q =>
      rcases (by omega : x < y ∨ x = y ∨ y < x) with e | e | e
      · rw [lexI_lt _ _ e, lexI_gt _ _ e]; rfl
      · subst e; rw [lexI_eq, lexI_eq]; exact ih q (by simpa using h)
      · rw [lexI_lt _ _ e, lexI_gt _ _ e]

theorem cmpL_neg (A B : List Int) : cmpL B A = -cmpL A B := by
  rcases (by omega : A.length < B.length ∨ A.length = B.length ∨ B.length < A.length) with e | e | e
  · rw [cmpL_lt e, cmpL_gt e]; rfl
  · rw [cmpL_eq e, cmpL_eq e.symm]; exact lexI_neg A B e
  · rw [cmpL_lt e, cmpL_gt e]

theorem lexI_trans : ∀ {A B C : List Int}, A.length = B.length → B.length = C.length → lexI A B = -1 → lexI B C = -1 → lexI A C = -1 := by
  intro A
  induction A with
  | nil => intro B C h1 h2 h; cases B with
    | nil => simp [lexI] at h
    | cons y q => simp at h1
  | cons x r ih =>
    intro B C h1 h2 h3 h4
    cases B with
    | nil => simp at h1
    | cons y q =>
      cases C with
      | nil => simp at h2
      | cons z p =>
        rcases (by omega : x < y ∨ x = y ∨ y < x) with e | e | e
        · rcases (by omega : y < z ∨ y = z ∨ z < y) with k | k | k
          · exact lexI_lt _ _ (by omega)
          · exact lexI_lt _ _ (by omega)
          · rw [lexI_gt _ _ k] at h4; simp at h4
        · subst e
          rw [lexI_eq] at h3
          rcases (by omega : x < z ∨ x = z ∨ z < x) with k | k | k
          · exact lexI_lt _ _ k
          · subst k
            rw [lexI_eq] at h4 ⊢
            exact ih (by simpa using h1) (by simpa using h2) h3 h4
          · rw [lexI_gt _ _ k] at h4; simp at h4
        · rw [lexI_gt _ _ e] at h3; simp at h3

theorem cmpL_le {A B : List Int} (h : cmpL A B = -1) : A.length < B.length ∨ (A.length = B.length ∧ lexI A B = -1) := by
  rcases (by omega : A.length < B.length ∨ A.length = B.length ∨ B.length < A.length) with e | e | e
  · exact .inl e
  · rw [cmpL_eq e] at h; exact .inr ⟨e, h⟩
  · rw [cmpL_gt e] at h; simp at h

theorem cmpL_trans {A B C : List Int} (h1 : cmpL A B = -1) (h2 : cmpL B C = -1) : cmpL A C = -1 := by
  rcases cmpL_le h1 with e | ⟨e, k⟩ <;> rcases cmpL_le h2 with e' | ⟨e', k'⟩
  · exact cmpL_lt (by omega)
  · exact cmpL_lt (by omega)
  · exact cmpL_lt (by omega)
  · rw [cmpL_eq (by omega)]; exact lexI_trans e e' k k'

theorem up_sub_tail {x y : Int} {xs r : List Int} (ha : Up (x :: xs)) (hb : Up (y :: r)) (h : ∀ z ∈ x :: xs, z ∈ y :: r) : (x = y ∧ ∀ z ∈ xs, z ∈ r) ∨ ∀ z ∈ x :: xs, z ∈ r := by
  have ha' := List.pairwise_cons.1 ha
  have hb' := List.pairwise_cons.1 hb
  by_cases e : x = y
  · refine .inl ⟨e, fun z hz => ?_⟩
    rcases List.mem_cons.1 (h z (by simp [hz])) with k | k
    · have := ha'.1 z hz; omega
    · exact k
  · refine .inr fun z hz => ?_
    have hx : x ∈ r := by
      rcases List.mem_cons.1 (h x (by simp)) with k | k
      · exact absurd k e
      · exact k
    have := hb'.1 x hx
    rcases List.mem_cons.1 (h z hz) with k | k
    · rcases List.mem_cons.1 hz with k2 | k2
      · omega
      · have := ha'.1 z k2; omega
    · exact k

theorem up_sub_len : ∀ {B A : List Int}, Up A → Up B → (∀ z ∈ A, z ∈ B) → A.length ≤ B.length := by
  intro B
  induction B with
  | nil => intro A _ _ h; cases A with
    | nil => simp
    | cons x xs => have := h x (by simp); simp at this
  | cons y r ih =>
    intro A ha hb h
    cases A with
    | nil => simp
    | cons x xs =>
      have hb' := (List.pairwise_cons.1 hb).2
      rcases up_sub_tail ha hb h with ⟨_, k⟩ | k
      · have := ih (List.pairwise_cons.1 ha).2 hb' k; simp; omega
      · have := ih ha hb' k; simp at this ⊢; omega

theorem up_sub_eq : ∀ {B A : List Int}, Up A → Up B → (∀ z ∈ A, z ∈ B) → A.length = B.length → A = B := by
  intro B
  induction B with
  | nil => intro A _ _ _ h; exact List.eq_nil_of_length_eq_zero (by simpa using h)
  | cons y r ih =>
    intro A ha hb h hl
    cases A with
    | nil => simp at hl
    | cons x xs =>
      have hb' := (List.pairwise_cons.1 hb).2
      rcases up_sub_tail ha hb h with ⟨e, k⟩ | k
      · rw [e, ih (List.pairwise_cons.1 ha).2 hb' k (by simpa using hl)]
      · have := up_sub_len ha hb' k; simp at this hl; omega

theorem flows_cmp {A B : List Int} (ha : Up A) (hb : Up B) (h : withinB A B = true) : cmpL A B ≠ 1 := by
  have hs := (within_iff ha hb).1 h
  have hl := up_sub_len ha hb hs
  rcases (by omega : A.length < B.length ∨ A.length = B.length) with e | e
  · rw [cmpL_lt e]; simp
  · rw [up_sub_eq ha hb hs e, cmpL_self]; simp

theorem put_rd (ao bo : Option Addr) (n c m d : Nat) (bs l : List Int) (w : World) (ha : Rd .u8 w ao n c bs) (hb : Rd .u16 w bo m d l) (hn : n ≤ 1000) (hm : m ≤ 8) (hu : U16 l) :
    Calls Try.prog 26 #[.slice ao n c, .slice bo m d] w fun e w' => ∃ oo p q, e = .returned (.slice oo p q) ∧ Rd .u8 w' oo p q (bs ++ putL l) ∧ Below w.heap.size w w' := by
  refine Calls.mono (put_any ao bo n c m d bs l w ha hb hn hm hu) ?_
  rintro e w1 ⟨v, rfl, hown, hB, _⟩
  obtain ⟨oo, q, hv, hr⟩ := Rd.of_owns hown
  exact ⟨oo, _, q, by rw [hv], hr, hB⟩

theorem putL_len (l : List Int) : (putL l).length = 1 + 2 * l.length := by rw [putL, List.length_cons, tagsB_len]; omega

/-- The conversion of bytes that may be read. -/
theorem conv_any {w : World} {ao : Option Addr} {n c : Nat} {xs : List Int} (h : Rd .u8 w ao n c xs) (hn : 0 < n) : (convert 34 9 (.slice ao n c)).run Try.prog w = .ok (.string (strOfNums xs)) w := by
  obtain ⟨b, o, rfl, hc⟩ := h.cells hn
  exact run_convert_bytes_arg w 34 5 Try.underlying34 Try.underlying5 b o n c xs h.len (fun i hi => by rw [hc i hi]; rfl) 9 Try.underlying9

set_option maxRecDepth 100000 in
set_option maxHeartbeats 4000000 in
theorem line_any (ao bo co : Option Addr) (n c m d p q : Nat) (A B C : List Int) (w : World) (ha : Rd .u16 w ao n c A) (hb : Rd .u16 w bo m d B) (hc : Rd .u16 w co p q C) (hua : U16 A) (hub : U16 B) :
    Calls Try.prog 7 #[.slice ao n c, .slice bo m d, .slice co p q] w fun e w' => e = .returned (.bool true) ∧ Below w.heap.size w w' := by
  have hB0 : Below w.heap.size w w := Below.refl _ _
  cases ea : mayB A with
  | false =>
    go_enter Try.func7, Try.ntmps7
    go_wp2_with fail
    refine Calls.mono (begun_any w) ?_
    rintro e w1 ⟨rfl, hb1⟩
    have hB1 : Below w.heap.size w w1 := hB0.trans (hb1.mono hB0.size)
    go_wp2_with fail
    refine Calls.mono (refMay_b ao n c A w1 (ha.later hB1)) ?_
    rintro e w2 ⟨rfl, hb2⟩
    have hB2 : Below w.heap.size w w2 := hB1.trans (hb2.mono hB1.size)
    go_wp2
    go_ret
    exact ⟨rfl, hB2⟩
  | true =>
    cases eb : mayB B with
    | false =>
      go_enter Try.func7, Try.ntmps7
      go_wp2_with fail
      refine Calls.mono (begun_any w) ?_
      rintro e w1 ⟨rfl, hb1⟩
      have hB1 : Below w.heap.size w w1 := hB0.trans (hb1.mono hB0.size)
      go_wp2_with fail
      refine Calls.mono (refMay_b ao n c A w1 (ha.later hB1)) ?_
      rintro e w2 ⟨rfl, hb2⟩
      have hB2 : Below w.heap.size w w2 := hB1.trans (hb2.mono hB1.size)
      go_wp2_with fail
      refine Calls.mono (refMay_b bo m d B w2 (hb.later hB2)) ?_
      rintro e w3 ⟨rfl, hb3⟩
      have hB3 : Below w.heap.size w w3 := hB2.trans (hb3.mono hB2.size)
      go_wp2
      go_ret
      exact ⟨rfl, hB3⟩
    | true =>
      cases ec : mayB C with
      | false =>
        go_enter Try.func7, Try.ntmps7
        go_wp2_with fail
        refine Calls.mono (begun_any w) ?_
        rintro e w1 ⟨rfl, hb1⟩
        have hB1 : Below w.heap.size w w1 := hB0.trans (hb1.mono hB0.size)
        go_wp2_with fail
        refine Calls.mono (refMay_b ao n c A w1 (ha.later hB1)) ?_
        rintro e w2 ⟨rfl, hb2⟩
        have hB2 : Below w.heap.size w w2 := hB1.trans (hb2.mono hB1.size)
        go_wp2_with fail
        refine Calls.mono (refMay_b bo m d B w2 (hb.later hB2)) ?_
        rintro e w3 ⟨rfl, hb3⟩
        have hB3 : Below w.heap.size w w3 := hB2.trans (hb3.mono hB2.size)
        go_wp2_with fail
        refine Calls.mono (refMay_b co p q C w3 (hc.later hB3)) ?_
        rintro e w4 ⟨rfl, hb4⟩
        have hB4 : Below w.heap.size w w4 := hB3.trans (hb4.mono hB3.size)
        go_wp2
        go_ret
        exact ⟨rfl, hB4⟩
      | true =>
        obtain ⟨ra, la⟩ := mayB_true ea
        have ua := up_of_rises ra
        have na := ha.len
        obtain ⟨rb, lb⟩ := mayB_true eb
        have ub := up_of_rises rb
        have nb := hb.len
        obtain ⟨rc, lc⟩ := mayB_true ec
        have uc := up_of_rises rc
        have nc := hc.len
        go_enter Try.func7, Try.ntmps7
        go_wp2_with fail
        refine Calls.mono (begun_any w) ?_
        rintro e w1 ⟨rfl, hb1⟩
        have hB1 : Below w.heap.size w w1 := hB0.trans (hb1.mono hB0.size)
        go_wp2_with fail
        refine Calls.mono (refMay_b ao n c A w1 (ha.later hB1)) ?_
        rintro e w2 ⟨rfl, hb2⟩
        have hB2 : Below w.heap.size w w2 := hB1.trans (hb2.mono hB1.size)
        go_wp2_with fail
        refine Calls.mono (refMay_b bo m d B w2 (hb.later hB2)) ?_
        rintro e w3 ⟨rfl, hb3⟩
        have hB3 : Below w.heap.size w w3 := hB2.trans (hb3.mono hB2.size)
        go_wp2_with fail
        refine Calls.mono (refMay_b co p q C w3 (hc.later hB3)) ?_
        rintro e w4 ⟨rfl, hb4⟩
        have hB4 : Below w.heap.size w w4 := hB3.trans (hb4.mono hB3.size)
        go_wp2_with fail
        refine Calls.mono (Compare_any ao bo n c m d A B w4 (ha.later hB4) (hb.later hB4)) ?_
        rintro e wx ⟨rfl, hxx⟩
        rw [hxx]
        clear hxx
        clear ea eb ec
        obtain ⟨x, hx⟩ : ∃ x, x = cmpL A B := ⟨_, rfl⟩
        rw [← hx]
        have HX : Hid (x = cmpL A B) := hx
        clear hx
        clear hb1 hb2 hb3 hb4 hB0 hB1 hB2 hB3
        go_upto_region 6 with fail
        go_cut [8] (fun v w' => v = .int .i64 x ∧ Below w.heap.size w w')
        case first =>
          have tok1 : True := trivial
          have pla := putL_len A
          have plb := putL_len B
          have sA : (strOfNums (putL A)).size ≤ 9223372036854775807 := by rw [strOfNums_size]; omega
          have sB : (strOfNums (putL B)).size ≤ 9223372036854775807 := by rw [strOfNums_size]; omega
          have HT : lexI (nums (strOfNums (putL A))) (nums (strOfNums (putL B))) = x := by rw [nums_str (putL_u8 hua la), nums_str (putL_u8 hub lb), lexI_put hua hub, HX.out]
          go_region_with (first
            | (go_at_call 26; have _t := tok1; refine Calls.mono (put_rd none ao 0 0 n c [] A _ (Rd.nil _ _) (ha.later hB4.drew) (by omega) (by omega) hua) ?_; rintro e y1 ⟨oa, pa, qa, rfl, hra, hba⟩; clear tok1; have hBa : Below w.heap.size w y1 := hB4.drew.trans (hba.mono hB4.size); have hpa := hra.len; have cva := conv_any hra (by simp at hpa; omega))
            | (go_at_call 26; refine Calls.mono (put_rd none bo 0 0 m d [] B _ (Rd.nil _ _) (hb.later hBa) (by omega) (by omega) hub) ?_; rintro e y2 ⟨ob, pb, qb, rfl, hrb, hbb⟩; have hBb : Below w.heap.size w y2 := hBa.trans (hbb.mono hBa.size); have hpb := hrb.len; have cvb := conv_any hrb (by simp at hpb; omega); have cva2 := conv_any (hra.later hbb) (by simp at hpa; omega))
            | (go_at_call 33; refine Calls.mono (text_any _ _ _ sA sB) ?_; rintro e y3 ⟨rfl, hbt⟩))
          all_goals
            go_wp2_with fail
            go_meet
            exact ⟨rfl, hBb.trans (hbt.mono hBb.size)⟩
        case rest =>
          clear hB4
          obtain ⟨rfl, hB0⟩ := hcut
          obtain ⟨w0, rfl⟩ : ∃ wo : World, wo = wc := ⟨_, rfl⟩
          have haa := cmpL_self A
          have hneg := cmpL_neg A B
          rw [← HX.out] at hneg
          rcases (by have := cmpL_vals A B; rw [← HX.out] at this; exact this : x = -1 ∨ x = 0 ∨ x = 1) with rfl | rfl | rfl
          · by_cases hbc : cmpL B C = -1
            · have hac : cmpL A C = -1 := cmpL_trans HX.out.symm hbc
              cases fab : withinB A B
              all_goals
                go_wp2_with fail
                refine Calls.mono (Compare_any bo ao m d n c B A w0 (hb.later hB0) (ha.later hB0)) ?_
                rintro e wx ⟨rfl, hxx⟩
                rw [hxx]
                clear hxx
                go_wp2_with fail
                refine Calls.mono (Compare_any ao ao n c n c A A w0 (ha.later hB0) (ha.later hB0)) ?_
                rintro e wx ⟨rfl, hxx⟩
                rw [hxx]
                clear hxx
                go_wp2_with fail
                refine Calls.mono (Compare_any bo co m d p q B C w0 (hb.later hB0) (hc.later hB0)) ?_
                rintro e wx ⟨rfl, hxx⟩
                rw [hxx]
                clear hxx
                go_wp2_with fail
                refine Calls.mono (Compare_any ao co n c p q A C w0 (ha.later hB0) (hc.later hB0)) ?_
                rintro e wx ⟨rfl, hxx⟩
                rw [hxx]
                clear hxx
                go_wp2_with fail
                refine Calls.mono (flows_any ao bo n c m d A B w0 (ha.later hB0) (hb.later hB0) ra rb) ?_
                rintro e w1 ⟨rfl, hb1⟩
                have hB1 : Below w.heap.size w w1 := hB0.trans (hb1.mono hB0.size)
                go_wp2
                go_ret
                exact ⟨rfl, hB1⟩
            · have hbc2 : (cmpL B C != -1) = true := by rw [bne_iff_ne]; exact hbc
              clear hbc
              cases fab : withinB A B
              all_goals
                go_wp2_with fail
                refine Calls.mono (Compare_any bo ao m d n c B A w0 (hb.later hB0) (ha.later hB0)) ?_
                rintro e wx ⟨rfl, hxx⟩
                rw [hxx]
                clear hxx
                go_wp2_with fail
                refine Calls.mono (Compare_any ao ao n c n c A A w0 (ha.later hB0) (ha.later hB0)) ?_
                rintro e wx ⟨rfl, hxx⟩
                rw [hxx]
                clear hxx
                go_wp2_with fail
                refine Calls.mono (Compare_any bo co m d p q B C w0 (hb.later hB0) (hc.later hB0)) ?_
                rintro e wx ⟨rfl, hxx⟩
                rw [hxx]
                clear hxx
                go_wp2_with fail
                refine Calls.mono (flows_any ao bo n c m d A B w0 (ha.later hB0) (hb.later hB0) ra rb) ?_
                rintro e w1 ⟨rfl, hb1⟩
                have hB1 : Below w.heap.size w w1 := hB0.trans (hb1.mono hB0.size)
                go_wp2
                go_ret
                exact ⟨rfl, hB1⟩
          · cases fab : withinB A B
            all_goals
              go_wp2_with fail
              refine Calls.mono (Compare_any bo ao m d n c B A w0 (hb.later hB0) (ha.later hB0)) ?_
              rintro e wx ⟨rfl, hxx⟩
              rw [hxx]
              clear hxx
              go_wp2_with fail
              refine Calls.mono (Compare_any ao ao n c n c A A w0 (ha.later hB0) (ha.later hB0)) ?_
              rintro e wx ⟨rfl, hxx⟩
              rw [hxx]
              clear hxx
              go_wp2_with fail
              refine Calls.mono (flows_any ao bo n c m d A B w0 (ha.later hB0) (hb.later hB0) ra rb) ?_
              rintro e w1 ⟨rfl, hb1⟩
              have hB1 : Below w.heap.size w w1 := hB0.trans (hb1.mono hB0.size)
              go_wp2
              go_ret
              exact ⟨rfl, hB1⟩
          · cases fab : withinB A B with
            | false =>
              go_wp2_with fail
              refine Calls.mono (Compare_any bo ao m d n c B A w0 (hb.later hB0) (ha.later hB0)) ?_
              rintro e wx ⟨rfl, hxx⟩
              rw [hxx]
              clear hxx
              go_wp2_with fail
              refine Calls.mono (Compare_any ao ao n c n c A A w0 (ha.later hB0) (ha.later hB0)) ?_
              rintro e wx ⟨rfl, hxx⟩
              rw [hxx]
              clear hxx
              go_wp2_with fail
              refine Calls.mono (flows_any ao bo n c m d A B w0 (ha.later hB0) (hb.later hB0) ra rb) ?_
              rintro e w1 ⟨rfl, hb1⟩
              have hB1 : Below w.heap.size w w1 := hB0.trans (hb1.mono hB0.size)
              go_wp2
              go_ret
              exact ⟨rfl, hB1⟩
            | true => exact absurd HX.out.symm (flows_cmp ua ub fab)

end Go.Proofs.Ytgmodalpmicmnaa
