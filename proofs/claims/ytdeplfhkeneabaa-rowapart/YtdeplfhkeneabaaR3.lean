/- The walks of the document's SameRow, of row.Put and of the document's Row. -/
import Derived.Test.YtdeplfhkeneabaaR2
import Derived.Test.YtdeplfhkeneabaaVc
namespace Go.Proofs.Ytdeplfhkeneabaa
open Go.RowKit
set_option linter.unusedVariables false

theorem same_str (s t : ByteArray) : (s.toList == t.toList) = decide (s = t) := by
  rw [Bool.eq_iff_iff]
  simp only [beq_iff_eq, decide_eq_true_eq]
  constructor
  · intro h
    rw [ByteArray.toList_eq, ByteArray.toList_eq] at h
    exact ByteArray.ext (Array.toList_inj.1 h)
  · intro h; rw [h]

theorem run_val (o : BinOp) (ho : o = .eql ∨ o = .neq) (a b : Vl) (w : World) :
    (binOp o 35 (.agg #[.int .i64 a.1, .int .i64 a.2.1, .string a.2.2]) (.agg #[.int .i64 b.1, .int .i64 b.2.1, .string b.2.2])).run Try.prog w = .ok (.bool (if o = .eql then decide (a = b) else !decide (a = b))) w := by
  obtain ⟨k, i, s⟩ := a
  obtain ⟨k', i', s'⟩ := b
  have e : decide ((k, i, s) = (k', i', s')) = (decide (k = k') && (decide (i = i') && decide (s = s'))) := by
    rw [Bool.eq_iff_iff]; simp
  rw [e]
  by_cases h1 : k = k'
  · subst h1
    by_cases h2 : i = i'
    · subst h2
      have h3 := same_str s s'
      generalize decide (s = s') = B at *
      clear e
      cases B
      · rcases ho with rfl | rfl
        · go_simp
        · go_simp
      · rcases ho with rfl | rfl
        · go_simp
        · go_simp
    · have g : (i == i') = false := by simpa using h2
      have g2 : decide (i = i') = false := by simpa using h2
      rw [g2]
      rcases ho with rfl | rfl
      · go_simp
      · go_simp
  · have g : (k == k') = false := by simpa using h1
    have g2 : decide (k = k') = false := by simpa using h1
    rw [g2]
    rcases ho with rfl | rfl
    · go_simp
    · go_simp
theorem run_same (a b : Vl) (w : World) : (binOp .eql 35 (.agg #[.int .i64 a.1, .int .i64 a.2.1, .string a.2.2]) (.agg #[.int .i64 b.1, .int .i64 b.2.1, .string b.2.2])).run Try.prog w = .ok (.bool (decide (a = b))) w := run_val .eql (.inl rfl) a b w
theorem run_other (a b : Vl) (w : World) : (binOp .neq 35 (.agg #[.int .i64 a.1, .int .i64 a.2.1, .string a.2.2]) (.agg #[.int .i64 b.1, .int .i64 b.2.1, .string b.2.2])).run Try.prog w = .ok (.bool (!decide (a = b))) w := run_val .neq (.inr rfl) a b w

set_option maxRecDepth 100000 in
theorem sameRow_any (ao bo : Option Addr) (n c m d : Nat) (xs ys : List Vl) (w : World) (h : RdV w ao n c xs) (k : RdV w bo m d ys) : Calls Try.prog 14 #[.slice ao n c, .slice bo m d] w fun e w' => e = .returned (.bool (decide (xs = ys))) ∧ Below w.heap.size w w' := by
  have hlen := h.len
  have hcap := h.cap
  have hmax := h.max
  have klen := k.len
  have kcap := k.cap
  have kmax := k.max
  by_cases hnm : n = m
  · subst hnm
    have HH : Hid (0 < n → ∃ b o, ao = some ⟨b, o, none⟩ ∧ ∀ i, i < n → Cv w b (o + i * 3) (vth xs i)) := h.cells
    have HK : Hid (0 < n → ∃ b o, bo = some ⟨b, o, none⟩ ∧ ∀ i, i < n → Cv w b (o + i * 3) (vth ys i)) := k.cells
    have HL : Hid (xs.length = n) := hlen
    have HM : Hid (ys.length = n) := klen
    clear h k hlen klen
    go_enter Try.func14, Try.ntmps14
    go_wp2
    go_loopw [5] (fun i wr => ∃ k : Nat, k ≤ n ∧ i = .int .i64 k ∧ Hid (xs.take k = ys.take k) ∧ Hid (Below w.heap.size w wr)) (fun i _ => n - (intOf i).toNat)
    case atStart => exact ⟨0, by omega, rfl, by simp [Hid], Below.refl _ _⟩
    case round =>
      obtain ⟨j, hj, rfl, HD, HB⟩ := hrel
      by_cases hlt : j < n
      · obtain ⟨b, o, rfl, hc⟩ := HH.out (by omega)
        obtain ⟨b', o', rfl, hc'⟩ := HK.out (by omega)
        obtain ⟨c0, c1, c2⟩ := (hc j hlt).later HB.out
        obtain ⟨d0, d1, d2⟩ := (hc' j hlt).later HB.out
        clear hc hc'
        have hrun := run_other (vth xs j) (vth ys j)
        by_cases hx : vth xs j = vth ys j
        · rw [decide_eq_true hx] at hrun
          have HN : Hid (xs.take (j + 1) = ys.take (j + 1)) := by
            rw [Hid, take_snoc (by rw [HL.out]; exact hlt), take_snoc (by rw [HM.out]; exact hlt), HD.out, ← vth_at, ← vth_at, hx]
          clear HD hx
          generalize vth xs j = u at *
          generalize vth ys j = v at *
          go_wp2
          go_quiet (fail)
          go_wp2
          go_roundw
          case rel => exact ⟨j + 1, by omega, by go_num, HN, below_drewN HB.out _⟩
          case measure => simp only [intOf]; omega
        · rw [decide_eq_false hx] at hrun
          have HN : Hid (decide (xs = ys) = false) := by
            rw [Hid, decide_eq_false_iff_not]
            intro e
            exact hx (by rw [e])
          clear HD hx
          generalize vth xs j = u at *
          generalize vth ys j = v at *
          go_wp2
          go_quiet (fail)
          go_wp2
          go_ret
          exact ⟨ret_bool HN.out.symm, below_drewN HB.out _⟩
      · have HN : Hid (xs = ys) := by
          have := HD.out
          rwa [List.take_of_length_le (by rw [HL.out]; omega), List.take_of_length_le (by rw [HM.out]; omega)] at this
        clear HD
        go_wp2
        go_ret
        exact ⟨ret_bool (decide_eq_true HN.out).symm, HB.out⟩
  · have e : decide (xs = ys) = false := by
      rw [decide_eq_false_iff_not]
      intro e
      rw [e] at hlen
      omega
    rw [e]
    have g : ((n : Int) == (m : Int)) = false := by simp; omega
    clear h k e
    go_enter Try.func14, Try.ntmps14
    go_wp2
    go_ret
    exact ⟨rfl, Below.refl _ _⟩

/-- The bytes of the first k values of a row of n. -/
def preL (n : Nat) (vs : List Vl) (k : Nat) : List Int := (n : Int) :: (vs.take k).flatMap keyVl
theorem preL_step {n k : Nat} {vs : List Vl} (hk : k < vs.length) : preL n vs k ++ keyL (vth vs k).1 (vth vs k).2.1 (nums (vth vs k).2.2) = preL n vs (k + 1) := by
  rw [preL, preL, take_snoc hk, List.flatMap_append, List.flatMap_cons, List.flatMap_nil, List.append_nil, ← vth_at hk]; rfl
theorem preL_end {n k : Nat} {vs : List Vl} (hn : vs.length = n) (hk : n ≤ k) : preL n vs k = rowL vs := by
  rw [preL, rowL, List.take_of_length_le (by omega), hn]
theorem preL_len {n k : Nat} {vs : List Vl} (h : mayR vs = true) : (preL n vs k).length ≤ 193 := by
  obtain ⟨h1, h2, h3⟩ := mayR_iff.1 h
  have := keys_len (l := vs.take k) fun v hv => h3 v (List.mem_of_mem_take hv)
  rw [List.length_take] at this
  rw [preL, List.length_cons]
  omega
theorem Rd.one {w : World} {g : Nat} {x : Int} (h : w.cell? ⟨g, 0, none⟩ = some (.int .u8 x)) : Rd .u8 w (some ⟨g, 0, none⟩) 1 1 [x] := by
  refine ⟨rfl, Nat.le_refl _, by omega, fun e => by simp at e, fun _ => ⟨g, 0, rfl, fun i hi => ?_⟩⟩
  obtain rfl : i = 0 := by omega
  simpa [nth] using h
/-- What Key tells, its length a letter. -/
theorem key_let (ao : Option Addr) (n c : Nat) (bs : List Int) (v : Vl) (w : World) (h : Rd .u8 w ao n c bs) (hn : n ≤ 1000) (hm : mayVl v = true) (hf : Fits v.2.1) :
    Calls Try.prog 24 #[.slice ao n c, .agg #[.int .i64 v.1, .int .i64 v.2.1, .string v.2.2]] w fun e w' => ∃ oo p q, e = .returned (.slice oo p q) ∧ Rd .u8 w' oo p q (bs ++ keyL v.1 v.2.1 (nums v.2.2)) ∧ Below w.heap.size w w' := by
  obtain ⟨hk, hl⟩ := mayV_kind hm
  rw [nums_len] at hl
  refine Calls.mono (key_rd ao n c bs v.1 v.2.1 v.2.2 w h hn (by omega) hf hk) ?_
  rintro e w1 ⟨oo, q, rfl, hr, hB⟩
  exact ⟨oo, _, q, rfl, hr, hB⟩
def Fit (l : List Vl) : Prop := ∀ v ∈ l, Fits v.2.1

set_option maxRecDepth 100000 in
theorem put_any (ao : Option Addr) (n c : Nat) (vs : List Vl) (w : World) (h : RdV w ao n c vs) (hs : Sized vs) (hf : Fit vs) : Calls Try.prog 12 #[.slice ao n c] w fun e w' => ∃ oo p q, e = .returned (.slice oo p q) ∧ Rd .u8 w' oo p q (putL vs) ∧ Below w.heap.size w w' := by
  have hlen := h.len
  have hcap := h.cap
  have hmax := h.max
  have HM := mayRow_any ao n c vs w h hs
  cases em : mayR vs with
  | false =>
    rw [em] at HM
    have e : putL vs = [] := by rw [putL, em]; rfl
    rw [e]
    replace HM : Hid _ := HM
    clear em e h
    go_enter Try.func12, Try.ntmps12
    go_wp2_with fail
    refine Calls.mono HM.out ?_
    rintro e w1 ⟨rfl, hb1⟩
    go_wp2
    go_ret
    exact ⟨none, 0, 0, rfl, Rd.nil _ _, hb1⟩
  | true =>
    rw [em] at HM
    have e : putL vs = rowL vs := by rw [putL, em]; rfl
    rw [e]
    obtain ⟨hl1, hl2, hall⟩ := mayR_iff.1 em
    have HP : Hid (∀ k, (preL n vs k).length ≤ 193) := fun k => preL_len em
    replace HM : Hid _ := HM
    obtain ⟨b, o, rfl, hc0⟩ := h.cells (by omega)
    have hn6 : n ≤ 6 := by omega
    have hn1 : 1 ≤ n := by omega
    have HL : Hid (vs.length = n) := hlen
    have HF : Hid (∀ i, i < n → mayVl (vth vs i) = true ∧ Fits (vth vs i).2.1) := fun i hi => ⟨hall _ (vth_mem (by omega)), hf _ (vth_mem (by omega))⟩
    have HH : Hid (∀ w', Below w.heap.size w w' → ∀ i, i < n → Cv w' b (o + i * 3) (vth vs i)) := fun w' hb i hi => (hc0 i hi).later hb
    clear em e h hc0 hl1 hl2 hall hlen hf hs
    go_enter Try.func12, Try.ntmps12
    go_wp2_with fail
    refine Calls.mono HM.out ?_
    rintro e w1 ⟨rfl, hb1⟩
    have hw8 : IntKind.u8.wrap (n : Int) = (n : Int) := by rw [IntKind.wrap_u8]; omega
    have hB2 : Below w.heap.size w (w1.alloc (.cells #[.int .u8 (n : Int)] 5)) := hb1.alloc hb1.size _
    have hR : Rd .u8 (w1.alloc (.cells #[.int .u8 (n : Int)] 5)) (some ⟨w1.heap.size, 0, none⟩) 1 1 (preL n vs 0) := Rd.one (by simp [go_sem])
    clear HM hb1
    go_wp2
    go_loopw [3, 15] (fun v i wr => ∃ (k : Nat) (ao : Option Addr) (p q : Nat), k ≤ n ∧ v = .slice ao p q ∧ i = .int .i64 k ∧ Hid (Rd .u8 wr ao p q (preL n vs k)) ∧ Hid (Below w.heap.size w wr)) (fun _ i _ => n - (intOf i).toNat)
    case atStart => exact ⟨0, _, _, _, by omega, rfl, rfl, hR, hB2⟩
    case round =>
      obtain ⟨k, ao, p, q, hk, rfl, rfl, HR, HB⟩ := hrel
      by_cases hlt : k < n
      · obtain ⟨c0, c1, c2⟩ := HH.out wr HB.out k hlt
        obtain ⟨hm, hfi⟩ := HF.out k hlt
        have hpl := HR.out.len
        have hp := HP.out k
        have HE : Hid _ := preL_step (n := n) (vs := vs) (k := k) (by rw [HL.out]; exact hlt)
        have HK : Hid (∀ w', Below wr.heap.size wr w' → _) := fun w' hb => key_let ao p q (preL n vs k) (vth vs k) w' (HR.out.later hb) (by omega) hm hfi
        rw [HE.out] at HK
        clear HE hm hfi HR hpl hp
        generalize vth vs k = v at *
        obtain ⟨v0, v1, v2⟩ := v
        have hb1 : Below wr.heap.size wr (wr.alloc (.cells #[.int .i64 v0, .int .i64 v1, .string v2] 35)) := (Below.refl _ _).alloc (Nat.le_refl _) _
        go_wp2_with fail
        refine Calls.mono (HK.out _ hb1) ?_
        rintro e w2 ⟨oo, p', q', rfl, hr2, hb2⟩
        have hB3 := Below.on (Below.on HB.out hb1) hb2
        clear HK hb1 hb2 HB c0 c1 c2
        go_wp2
        go_roundw
        case rel => exact ⟨k + 1, oo, p', q', by omega, rfl, by go_num, hr2, hB3⟩
        case measure => simp only [intOf]; omega
      · go_wp2
        go_ret
        exact ⟨ao, p, q, rfl, rd_any HR.out (preL_end HL.out (by omega)), HB.out⟩

theorem refKey_let (ao : Option Addr) (n c : Nat) (bs : List Int) (v : Vl) (w : World) (h : Rd .u8 w ao n c bs) (hn : n ≤ 1000) (hm : mayVl v = true) (hf : Fits v.2.1) :
    Calls Try.prog 25 #[.slice ao n c, .agg #[.int .i64 v.1, .int .i64 v.2.1, .string v.2.2]] w fun e w' => ∃ oo p q, e = .returned (.slice oo p q) ∧ Rd .u8 w' oo p q (bs ++ keyL v.1 v.2.1 (nums v.2.2)) ∧ Below w.heap.size w w' := by
  obtain ⟨hk, hl⟩ := mayV_kind hm
  rw [nums_len] at hl
  refine Calls.mono (refKey_rd ao n c bs v.1 v.2.1 v.2.2 w h hn (by omega) hf hk) ?_
  rintro e w1 ⟨oo, q, rfl, hr, hB⟩
  exact ⟨oo, _, q, rfl, hr, hB⟩

set_option maxRecDepth 100000 in
theorem refPut_any (ao : Option Addr) (n c : Nat) (vs : List Vl) (w : World) (h : RdV w ao n c vs) (hs : Sized vs) (hf : Fit vs) : Calls Try.prog 13 #[.slice ao n c] w fun e w' => ∃ oo p q, e = .returned (.slice oo p q) ∧ Rd .u8 w' oo p q (putL vs) ∧ Below w.heap.size w w' := by
  have hlen := h.len
  have hcap := h.cap
  have hmax := h.max
  have HM := refMayRow_any ao n c vs w h hs
  cases em : mayR vs with
  | false =>
    rw [em] at HM
    have e : putL vs = [] := by rw [putL, em]; rfl
    rw [e]
    replace HM : Hid _ := HM
    clear em e h
    go_enter Try.func13, Try.ntmps13
    go_wp2_with fail
    refine Calls.mono HM.out ?_
    rintro e w1 ⟨rfl, hb1⟩
    go_wp2
    go_ret
    exact ⟨none, 0, 0, rfl, Rd.nil _ _, hb1⟩
  | true =>
    rw [em] at HM
    have e : putL vs = rowL vs := by rw [putL, em]; rfl
    rw [e]
    obtain ⟨hl1, hl2, hall⟩ := mayR_iff.1 em
    have HP : Hid (∀ k, (preL n vs k).length ≤ 193) := fun k => preL_len em
    replace HM : Hid _ := HM
    obtain ⟨b, o, rfl, hc0⟩ := h.cells (by omega)
    have hn6 : n ≤ 6 := by omega
    have hn1 : 1 ≤ n := by omega
    have HL : Hid (vs.length = n) := hlen
    have HF : Hid (∀ i, i < n → mayVl (vth vs i) = true ∧ Fits (vth vs i).2.1) := fun i hi => ⟨hall _ (vth_mem (by omega)), hf _ (vth_mem (by omega))⟩
    have HH : Hid (∀ w', Below w.heap.size w w' → ∀ i, i < n → Cv w' b (o + i * 3) (vth vs i)) := fun w' hb i hi => (hc0 i hi).later hb
    clear em e h hc0 hl1 hl2 hall hlen hf hs
    go_enter Try.func13, Try.ntmps13
    go_wp2_with fail
    refine Calls.mono HM.out ?_
    rintro e w1 ⟨rfl, hb1⟩
    have hw8 : IntKind.u8.wrap (n : Int) = (n : Int) := by rw [IntKind.wrap_u8]; omega
    have hB2 : Below w.heap.size w (w1.alloc (.cells #[.int .u8 (n : Int)] 5)) := hb1.alloc hb1.size _
    have hR : Rd .u8 (w1.alloc (.cells #[.int .u8 (n : Int)] 5)) (some ⟨w1.heap.size, 0, none⟩) 1 1 (preL n vs 0) := Rd.one (by simp [go_sem])
    clear HM hb1
    go_wp2
    go_loopw [3, 4] (fun v i wr => ∃ (k : Nat) (ao : Option Addr) (p q : Nat), k ≤ n ∧ v = .slice ao p q ∧ i = .int .i64 k ∧ Hid (Rd .u8 wr ao p q (preL n vs k)) ∧ Hid (Below w.heap.size w wr)) (fun _ i _ => n - (intOf i).toNat)
    case atStart => exact ⟨0, _, _, _, by omega, rfl, rfl, hR, hB2⟩
    case round =>
      obtain ⟨k, ao, p, q, hk, rfl, rfl, HR, HB⟩ := hrel
      by_cases hlt : k < n
      · obtain ⟨c0, c1, c2⟩ := HH.out wr HB.out k hlt
        obtain ⟨hm, hfi⟩ := HF.out k hlt
        have hpl := HR.out.len
        have hp := HP.out k
        have HE : Hid _ := preL_step (n := n) (vs := vs) (k := k) (by rw [HL.out]; exact hlt)
        have HK := refKey_let ao p q (preL n vs k) (vth vs k) wr HR.out (by omega) hm hfi
        rw [HE.out] at HK
        replace HK : Hid _ := HK
        clear HE hm hfi HR hpl hp
        generalize vth vs k = v at *
        obtain ⟨v0, v1, v2⟩ := v
        go_wp2_with fail
        refine Calls.mono HK.out ?_
        rintro e w2 ⟨oo, p', q', rfl, hr2, hb2⟩
        have hB3 := Below.on HB.out hb2
        clear HK hb2 HB c0 c1 c2
        go_wp2
        go_roundw
        case rel => exact ⟨k + 1, oo, p', q', by omega, rfl, by go_num, hr2, hB3⟩
        case measure => simp only [intOf]; omega
      · go_wp2
        go_ret
        exact ⟨ao, p, q, rfl, rd_any HR.out (preL_end HL.out (by omega)), HB.out⟩

end Go.Proofs.Ytdeplfhkeneabaa
