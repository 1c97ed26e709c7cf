/- The walk of ValueOrder. -/
import Derived.Test.YtmeiloghgoohmaaVh
import Derived.Test.YtmeiloghgoohmaaVi
import Derived.Test.YtmeiloghgoohmaaVe
import Derived.Test.YtmeiloghgoohmaaVk
namespace Go.Proofs.Ytmeiloghgoohmaa
open Go.RowKit
set_option linter.unusedVariables false

theorem Bx.three (w : World) (k i : Int) (s : ByteArray) (k' i' : Int) (s' : ByteArray) (k'' i'' : Int) (s'' : ByteArray) :
    Bx (((w.alloc (.cells #[.int .i64 k, .int .i64 i, .string s] 24)).alloc (.cells #[.int .i64 k', .int .i64 i', .string s'] 24)).alloc (.cells #[.int .i64 k'', .int .i64 i'', .string s''] 24)) w.heap.size k i s ∧
    Bx (((w.alloc (.cells #[.int .i64 k, .int .i64 i, .string s] 24)).alloc (.cells #[.int .i64 k', .int .i64 i', .string s'] 24)).alloc (.cells #[.int .i64 k'', .int .i64 i'', .string s''] 24)) (w.heap.size + 1) k' i' s' ∧
    Bx (((w.alloc (.cells #[.int .i64 k, .int .i64 i, .string s] 24)).alloc (.cells #[.int .i64 k', .int .i64 i', .string s'] 24)).alloc (.cells #[.int .i64 k'', .int .i64 i'', .string s''] 24)) (w.heap.size + 2) k'' i'' s'' ∧
    Below w.heap.size w (((w.alloc (.cells #[.int .i64 k, .int .i64 i, .string s] 24)).alloc (.cells #[.int .i64 k', .int .i64 i', .string s'] 24)).alloc (.cells #[.int .i64 k'', .int .i64 i'', .string s''] 24)) := by
  obtain ⟨X, Y, hB⟩ := Bx.two w k i s k' i' s'
  have hb : ∀ W : World, Below W.heap.size W (W.alloc (.cells #[.int .i64 k'', .int .i64 i'', .string s''] 24)) := fun W => (Below.refl _ _).alloc (Nat.le_refl _) _
  exact ⟨X.later (hb _), Y.later (hb _), by simpa using Bx.new ((w.alloc (.cells #[.int .i64 k, .int .i64 i, .string s] 24)).alloc (.cells #[.int .i64 k', .int .i64 i', .string s'] 24)) k'' i'' s'' 24, Below.on hB (hb _)⟩

/-- Is it one value? -/
theorem same_value {k i : Int} {s : ByteArray} {k' i' : Int} {s' : ByteArray} : cmpV k i (nums s) k' i' (nums s') = 0 ↔ k = k' ∧ i = i' ∧ s = s' := by
  rw [cmpV_zero]
  constructor
  · rintro ⟨h1, h2, h3⟩; exact ⟨h1, h2, nums_inj h3⟩
  · rintro ⟨rfl, rfl, rfl⟩; exact ⟨rfl, rfl, rfl⟩

theorem str_begins {A B : List Int} (ha : U8 A) (hb : U8 B) (hl : A.length ≤ B.length) : (((strOfNums B).extract 0 A.length).toList == (strOfNums A).toList) = decide (B.take A.length = A) := by
  rw [Bool.eq_iff_iff, beq_iff_eq, decide_eq_true_iff]
  constructor
  · intro h
    have h1 : (strOfNums B).extract 0 A.length = strOfNums A := by
      rw [ByteArray.toList_eq, ByteArray.toList_eq] at h
      exact ByteArray.ext (Array.toList_inj.1 h)
    have h2 := congrArg nums h1
    rw [str_take (by rw [str_size]; exact hl), nums_str ha, nums_str hb] at h2
    exact h2
  · intro h
    have : (strOfNums B).extract 0 A.length = strOfNums A := by
      apply nums_inj
      rw [str_take (by rw [str_size]; exact hl), nums_str ha, nums_str hb, h]
    rw [this]

theorem run_ne {k i : Int} {s : ByteArray} {k' i' : Int} {s' : ByteArray} (h : ¬ (k = k' ∧ i = i' ∧ s = s')) (w : World) :
    (binOp .eql 24 (.agg #[.int .i64 k, .int .i64 i, .string s]) (.agg #[.int .i64 k', .int .i64 i', .string s'])).run Try.prog w = .ok (.bool false) w := by
  by_cases h1 : k = k'
  · by_cases h2 : i = i'
    · have h3 : (s.toList == s'.toList) = false := by
        rw [same_nums, decide_eq_false_iff_not]
        intro e
        exact h ⟨h1, h2, nums_inj (lexI_zero e)⟩
      subst h1 h2
      go_simp
    · have g : (i == i') = false := by simpa using h2
      subst h1
      go_simp
  · have g : (k == k') = false := by simpa using h1
    go_simp
theorem run_eq {k i : Int} {s : ByteArray} (w : World) :
    (binOp .eql 24 (.agg #[.int .i64 k, .int .i64 i, .string s]) (.agg #[.int .i64 k, .int .i64 i, .string s])).run Try.prog w = .ok (.bool true) w := by
  go_simp

set_option maxRecDepth 100000 in
set_option maxHeartbeats 4000000 in
theorem order_any (ao : Option Addr) (n c : Nat) (bs : List Int) (k i : Int) (s : ByteArray) (k' i' : Int) (s' : ByteArray) (k'' i'' : Int) (s'' : ByteArray) (w : World) (h : Rd .u8 w ao n c bs) (hu : U8 bs) (hf : Fits i) (hf' : Fits i') (hs : s.size ≤ 9223372036854775807) (hs' : s'.size ≤ 9223372036854775807) (hs'' : s''.size ≤ 9223372036854775807) :
    Calls Try.prog 5 #[.agg #[.int .i64 k, .int .i64 i, .string s], .agg #[.int .i64 k', .int .i64 i', .string s'], .agg #[.int .i64 k'', .int .i64 i'', .string s''], .slice ao n c] w fun e w' => e = .returned (.bool true) ∧ Below w.heap.size w w' := by
  obtain ⟨X, Y, Z, hB⟩ := Bx.three w k i s k' i' s' k'' i'' s''
  have HR : Hid (∀ w, _) := fun w => refMay_any k i s hs w
  have HR' : Hid (∀ w, _) := fun w => refMay_any k' i' s' hs' w
  have HR'' : Hid (∀ w, _) := fun w => refMay_any k'' i'' s'' hs'' w
  have H0 : Hid (∀ w, _) := fun w => begun_any w
  have na := h.len
  have nc := h.cap
  go_enter Try.func5, Try.ntmps5
  go_upto_region 1 with fail
  generalize ((w.alloc (.cells #[.int .i64 k, .int .i64 i, .string s] 24)).alloc (.cells #[.int .i64 k', .int .i64 i', .string s'] 24)).alloc (.cells #[.int .i64 k'', .int .i64 i'', .string s''] 24) = W at *
  go_wp2_with fail
  refine Calls.mono (H0.out _) ?_
  rintro e w1 ⟨rfl, hb1⟩
  replace hB := Below.on hB hb1
  replace X := X.later hb1
  replace Y := Y.later hb1
  replace Z := Z.later hb1
  clear hb1 H0
  obtain ⟨x0, x1, x2⟩ := X
  cases em : mayV k i (nums s) with
  | false =>
    rw [em] at HR
    go_wp2_with fail
    refine Calls.mono (HR.out _) ?_
    rintro e w2 ⟨rfl, hb2⟩
    replace hB := Below.on hB hb2
    clear HR HR' HR'' em
    go_wp2
    go_ret
    exact ⟨rfl, hB⟩
  | true =>
    rw [em] at HR
    go_wp2_with fail
    refine Calls.mono (HR.out _) ?_
    rintro e w2 ⟨rfl, hb2⟩
    replace hB := Below.on hB hb2
    have X : Bx w2 w.heap.size k i s := Bx.later ⟨x0, x1, x2⟩ hb2
    replace Y := Y.later hb2
    replace Z := Z.later hb2
    clear x0 x1 x2 HR hb2
    obtain ⟨y0, y1, y2⟩ := Y
    cases em' : mayV k' i' (nums s') with
    | false =>
      rw [em'] at HR'
      go_wp2_with fail
      refine Calls.mono (HR'.out _) ?_
      rintro e w3 ⟨rfl, hb3⟩
      replace hB := Below.on hB hb3
      clear HR' HR'' em em'
      go_wp2
      go_ret
      exact ⟨rfl, hB⟩
    | true =>
      rw [em'] at HR'
      go_wp2_with fail
      refine Calls.mono (HR'.out _) ?_
      rintro e w3 ⟨rfl, hb3⟩
      replace hB := Below.on hB hb3
      have Y : Bx w3 (w.heap.size + 1) k' i' s' := Bx.later ⟨y0, y1, y2⟩ hb3
      replace X := X.later hb3
      replace Z := Z.later hb3
      clear y0 y1 y2 HR' hb3
      obtain ⟨z0, z1, z2⟩ := Z
      cases em'' : mayV k'' i'' (nums s'') with
      | false =>
        rw [em''] at HR''
        go_wp2_with fail
        refine Calls.mono (HR''.out _) ?_
        rintro e w4 ⟨rfl, hb4⟩
        replace hB := Below.on hB hb4
        clear HR'' em em' em''
        go_wp2
        go_ret
        exact ⟨rfl, hB⟩
      | true =>
        rw [em''] at HR''
        go_wp2_with fail
        refine Calls.mono (HR''.out _) ?_
        rintro e w4 ⟨rfl, hb4⟩
        replace hB := Below.on hB hb4
        have Z : Bx w4 (w.heap.size + 2) k'' i'' s'' := Bx.later ⟨z0, z1, z2⟩ hb4
        replace X := X.later hb4
        replace Y := Y.later hb4
        clear z0 z1 z2 HR'' hb4
        by_cases h100 : 100 < n
        · clear em em' em''
          go_wp2
          go_ret
          exact ⟨rfl, hB⟩
        · have g100 : decide ((100 : Int) < (n : Int)) = false := by simp; omega
          obtain ⟨hk, hk30⟩ := mayV_kind em
          obtain ⟨hk', hk30'⟩ := mayV_kind em'
          have ns := nums_len s
          have ns' := nums_len s'
          have HKa : Hid (∀ w, _) := fun w => key_rd none 0 0 [] k i s w (Rd.nil _ _) (by omega) (by omega) hf hk
          have HKb : Hid (∀ w, _) := fun w => key_rd none 0 0 [] k' i' s' w (Rd.nil _ _) (by omega) (by omega) hf' hk'
          rw [List.nil_append] at HKa HKb
          obtain ⟨KX, hKX⟩ : ∃ X, X = keyL k i (nums s) := ⟨_, rfl⟩
          obtain ⟨KY, hKY⟩ : ∃ Y, Y = keyL k' i' (nums s') := ⟨_, rfl⟩
          rw [← hKX] at HKa
          rw [← hKY] at HKb
          have hXl : KX.length ≤ 32 := by rw [hKX]; exact keyL_len em
          have hYl : KY.length ≤ 32 := by rw [hKY]; exact keyL_len em'
          have hXu : U8 KX := by rw [hKX]; exact keyL_u8 em
          have hYu : U8 KY := by rw [hKY]; exact keyL_u8 em'
          have HLex : Hid (lexI KX KY = cmpV k i (nums s) k' i' (nums s')) := by rw [Hid, hKX, hKY, key_lex em em' hf hf']
          have HBeg : Hid (KY.take KX.length = KX ↔ cmpV k i (nums s) k' i' (nums s') = 0) := by
            rw [Hid, hKX, hKY]
            constructor
            · intro hp
              exact cmpV_zero.2 (key_begins em em' hf hf' hp)
            · intro hc
              obtain ⟨rfl, rfl, hl⟩ := cmpV_zero.1 hc
              rw [← hl, List.take_of_length_le (Nat.le_refl _)]
          have HTk : Hid (tkR (KX ++ bs) = .tuple #[.agg #[.int .i64 k, .int .i64 i, .string s], .int .i64 KX.length, .int .i64 0]) := by
            rw [Hid, hKX]
            obtain ⟨t1, t2, t3, t4, t5⟩ := tk_key em hf bs
            rw [tkR, t1, t2, t3, t4, t5, tkA, strOf_nums]
          obtain ⟨NX, hNX⟩ : ∃ N, N = KX.length := ⟨_, rfl⟩
          obtain ⟨NY, hNY⟩ : ∃ N, N = KY.length := ⟨_, rfl⟩
          have HNX : Hid (NX = KX.length) := hNX
          have HNY : Hid (NY = KY.length) := hNY
          rw [← hNX] at HKa hXl HBeg HTk
          rw [← hNY] at HKb hYl
          clear hKX hKY hNX hNY
          obtain ⟨x0, x1, x2⟩ := X
          obtain ⟨y0, y1, y2⟩ := Y
          go_upto_region 5 with fail
          go_cut [9, 10] (fun v9 v10 w' => v9 = .string (strOfNums KX) ∧ v10 = .string (strOfNums KY) ∧ Below w4.heap.size w4 w')
          case first =>
            have hC : Below w4.heap.size w4 w4.drew := (Below.refl _ _).drew
            go_region_held (fun w' => w'.cell? ⟨w.heap.size, 0, none⟩ = some (.int .i64 k) ∧ w'.cell? ⟨w.heap.size, 1, none⟩ = some (.int .i64 i) ∧ w'.cell? ⟨w.heap.size, 2, none⟩ = some (.string s) ∧ w'.cell? ⟨w.heap.size + 1, 0, none⟩ = some (.int .i64 k') ∧ w'.cell? ⟨w.heap.size + 1, 1, none⟩ = some (.int .i64 i') ∧ w'.cell? ⟨w.heap.size + 1, 2, none⟩ = some (.string s')) (exact ⟨cell_later hC x0, cell_later hC x1, cell_later hC x2, cell_later hC y0, cell_later hC y1, cell_later hC y2⟩)
              (first
              | (go_at_call_of 12 (Value.string s); refine Calls.mono (HKa.out _) ?_; rintro e yA ⟨oA, qA, rfl, hrA, hbA⟩; replace hC := Below.on hC hbA; have cA := conv_all hrA; try (have cB2 := conv_all (hrB.later hbA)))
              | (go_at_call_of 12 (Value.string s'); refine Calls.mono (HKb.out _) ?_; rintro e yB ⟨oB, qB, rfl, hrB, hbB⟩; replace hC := Below.on hC hbB; have cB := conv_all hrB; try (have cA2 := conv_all (hrA.later hbB))))
            all_goals
              go_wp2_with fail
              go_meet
              exact ⟨rfl, rfl, hC⟩
          case rest =>
            obtain ⟨rfl, rfl, hbc⟩ := hcut
            replace hB := Below.on hB hbc
            have X : Bx wc w.heap.size k i s := Bx.later ⟨x0, x1, x2⟩ hbc
            have Y : Bx wc (w.heap.size + 1) k' i' s' := Bx.later ⟨y0, y1, y2⟩ hbc
            replace Z := Z.later hbc
            clear x0 x1 x2 y0 y1 y2 hbc HKa HKb
            have HCxy : Hid (∀ w, _) := fun w => compare_any k i s k' i' s' w
            have HCyx : Hid (∀ w, _) := fun w => compare_any k' i' s' k i s w
            have HCyz : Hid (∀ w, _) := fun w => compare_any k' i' s' k'' i'' s'' w
            have HCxz : Hid (∀ w, _) := fun w => compare_any k i s k'' i'' s'' w
            rw [cmpV_neg k i (nums s) k' i' (nums s')] at HCyx
            have HTr : Hid (cmpV k i (nums s) k' i' (nums s') = -1 → cmpV k' i' (nums s') k'' i'' (nums s'') = -1 → cmpV k i (nums s) k'' i'' (nums s'') = -1) := cmpV_trans
            have HVal : Hid _ := cmpV_vals k i (nums s) k' i' (nums s')
            have HSame : Hid _ := same_value (k := k) (i := i) (s := s) (k' := k') (i' := i') (s' := s')
            generalize cmpV k i (nums s) k' i' (nums s') = C at *
            generalize cmpV k' i' (nums s') k'' i'' (nums s'') = D at *
            generalize cmpV k i (nums s) k'' i'' (nums s'') = E at *
            clear em em' em'' hf hf' hs hs' hs'' hk hk' hk30 hk30' ns ns'
            have hsX : (strOfNums KX).size = NX := by rw [str_size, HNX.out]
            have hsY : (strOfNums KY).size = NY := by rw [str_size, HNY.out]
            obtain ⟨x0, x1, x2⟩ := X
            obtain ⟨y0, y1, y2⟩ := Y
            go_wp2_with fail
            refine Calls.mono (HCxy.out _) ?_
            rintro e w5 ⟨rfl, hb5⟩
            replace hB := Below.on hB hb5
            have X : Bx w5 w.heap.size k i s := Bx.later ⟨x0, x1, x2⟩ hb5
            have Y : Bx w5 (w.heap.size + 1) k' i' s' := Bx.later ⟨y0, y1, y2⟩ hb5
            replace Z := Z.later hb5
            clear x0 x1 x2 y0 y1 y2 hb5 HCxy
            obtain ⟨cap, w6, hcv, hheld, hb6⟩ := run_bytes w5 (strOfNums KX) (by omega)
            rw [hsX] at hcv hheld
            rw [nums_str hXu] at hheld
            have hs6 := hb6.size
            have hsrc := SrcB.ofRd (h.later (Below.on hB hb6))
            go_wp2_with (first | (at_builtin; refine wpList_app_held rfl (.tmp 48) (.tmp 49) 22 rfl w5.heap.size w5.heap.size NX cap _ KX bs rfl rfl hheld (Nat.le_refl _) hsrc (by have := HNX.out; omega) hs6 ?_) | fail)
            intro ro rp rq w7 hr7 hb7
            have hC7 := hb6.trans hb7
            replace hB := Below.on hB hC7
            replace X := X.later hC7
            replace Y := Y.later hC7
            replace Z := Z.later hC7
            clear hcv hheld hb6 hs6 hsrc hb7 hC7
            have HT := take_any ro rp rq (KX ++ bs) w7 hr7 (fun x hx => by
              rcases List.mem_append.1 hx with hx | hx
              · exact hXu x hx
              · exact hu x hx)
            rw [HTk.out] at HT
            replace HT : Hid _ := HT
            clear HTk hr7
            go_wp2_with fail
            refine Calls.mono HT.out ?_
            rintro e w8 ⟨rfl, hb8⟩
            replace hB := Below.on hB hb8
            replace X := X.later hb8
            replace Y := Y.later hb8
            replace Z := Z.later hb8
            clear HT hb8
            have hB9 : Below w.heap.size w (w8.alloc (.cells #[.int .i64 k, .int .i64 i, .string s] 24)) := hB.alloc hB.size _
            have hal : Below w8.heap.size w8 (w8.alloc (.cells #[.int .i64 k, .int .i64 i, .string s] 24)) := (Below.refl _ _).alloc (Nat.le_refl _) _
            have V := Bx.new w8 k i s 24
            replace X := X.later hal
            replace Y := Y.later hal
            replace Z := Z.later hal
            clear hal hB
            go_upto_region 8 with fail
            generalize w8.alloc (.cells #[.int .i64 k, .int .i64 i, .string s] 24) = U at *
            go_cut [15] (fun v w' => v = .bool true ∧ Below U.heap.size U w')
            case first =>
              have hC : Below U.heap.size U U := Below.refl _ _
              clear HLex HBeg
              rcases HVal.out with hc | hc | hc
              · subst hc
                have HTr2 : Hid (D = -1 → E = -1) := HTr.out rfl
                rw [show (-(-1) : Int) = 1 from rfl] at HCyx
                have hne := run_ne (fun q => absurd (HSame.out.2 q) (by omega)) (k := k) (i := i) (s := s) (k' := k') (i' := i') (s' := s')
                clear HSame HVal HTr
                obtain ⟨x0, x1, x2⟩ := X
                obtain ⟨y0, y1, y2⟩ := Y
                go_wp2_with fail
                refine Calls.mono (HCyx.out _) ?_
                rintro e u1 ⟨rfl, hc1⟩
                replace hC := Below.on hC hc1
                have X : Bx u1 w.heap.size k i s := Bx.later ⟨x0, x1, x2⟩ hc1
                have Y : Bx u1 (w.heap.size + 1) k' i' s' := Bx.later ⟨y0, y1, y2⟩ hc1
                clear x0 x1 x2 y0 y1 y2
                replace Z := Z.later hc1
                clear hc1 HCyx
                by_cases hD : D = -1
                · have hE := HTr2.out hD
                  subst hD hE
                  clear HTr2
                  obtain ⟨x0, x1, x2⟩ := X
                  obtain ⟨y0, y1, y2⟩ := Y
                  obtain ⟨z0, z1, z2⟩ := Z
                  go_wp2_with fail
                  refine Calls.mono (HCyz.out _) ?_
                  rintro e u2 ⟨rfl, hc2⟩
                  replace hC := Below.on hC hc2
                  have X : Bx u2 w.heap.size k i s := Bx.later ⟨x0, x1, x2⟩ hc2
                  have Y : Bx u2 (w.heap.size + 1) k' i' s' := Bx.later ⟨y0, y1, y2⟩ hc2
                  have Z : Bx u2 (w.heap.size + 2) k'' i'' s'' := Bx.later ⟨z0, z1, z2⟩ hc2
                  clear x0 x1 x2 y0 y1 y2 z0 z1 z2
                  clear hc2 HCyz
                  obtain ⟨x0, x1, x2⟩ := X
                  obtain ⟨y0, y1, y2⟩ := Y
                  obtain ⟨z0, z1, z2⟩ := Z
                  go_wp2_with fail
                  refine Calls.mono (HCxz.out _) ?_
                  rintro e u3 ⟨rfl, hc3⟩
                  replace hC := Below.on hC hc3
                  go_wp2_with fail
                  go_meet
                  exact ⟨rfl, hC⟩
                · have g1 : (D != -1) = true := by simpa using hD
                  clear HTr2 HCxz
                  obtain ⟨x0, x1, x2⟩ := X
                  obtain ⟨y0, y1, y2⟩ := Y
                  obtain ⟨z0, z1, z2⟩ := Z
                  go_wp2_with fail
                  refine Calls.mono (HCyz.out _) ?_
                  rintro e u2 ⟨rfl, hc2⟩
                  replace hC := Below.on hC hc2
                  go_wp2_with fail
                  go_meet
                  exact ⟨rfl, hC⟩
              · subst hc
                obtain ⟨rfl, rfl, rfl⟩ := HSame.out.1 rfl
                rw [show (-(0) : Int) = 0 from rfl] at HCyx
                have hne := fun w => run_eq (k := k) (i := i) (s := s) w
                clear HSame HVal HTr HCyz HCxz
                obtain ⟨x0, x1, x2⟩ := X
                obtain ⟨y0, y1, y2⟩ := Y
                go_wp2_with fail
                refine Calls.mono (HCyx.out _) ?_
                rintro e u1 ⟨rfl, hc1⟩
                replace hC := Below.on hC hc1
                replace x0 := cell_later hc1 x0
                replace x1 := cell_later hc1 x1
                replace x2 := cell_later hc1 x2
                replace y0 := cell_later hc1 y0
                replace y1 := cell_later hc1 y1
                replace y2 := cell_later hc1 y2
                clear hc1 HCyx
                go_wp2_with fail
                go_meet
                exact ⟨rfl, hC⟩
              · subst hc
                have hne := run_ne (fun q => absurd (HSame.out.2 q) (by omega)) (k := k) (i := i) (s := s) (k' := k') (i' := i') (s' := s')
                clear HSame HVal HTr HCyz HCxz
                obtain ⟨x0, x1, x2⟩ := X
                obtain ⟨y0, y1, y2⟩ := Y
                go_wp2_with fail
                refine Calls.mono (HCyx.out _) ?_
                rintro e u1 ⟨rfl, hc1⟩
                replace hC := Below.on hC hc1
                replace x0 := cell_later hc1 x0
                replace x1 := cell_later hc1 x1
                replace x2 := cell_later hc1 x2
                replace y0 := cell_later hc1 y0
                replace y1 := cell_later hc1 y1
                replace y2 := cell_later hc1 y2
                clear hc1 HCyx
                go_wp2_with fail
                go_meet
                exact ⟨rfl, hC⟩
            case rest =>
              obtain ⟨rfl, hbc⟩ := hcut
              have hB10 := Below.on hB9 hbc
              replace X := X.later hbc
              replace Y := Y.later hbc
              replace V := V.later hbc
              clear hB9 hbc HCyx HCyz HCxz HTr Z
              go_upto_region 9 with fail
              go_cut [16] (fun v w' => v = .bool (decide (C = 0)) ∧ w' = wc)
              case first =>
                by_cases hle : NX ≤ NY
                · have hb := str_begins hXu hYu (by rw [← HNX.out, ← HNY.out]; exact hle)
                  rw [← HNX.out] at hb
                  have hd : decide (KY.take NX = KX) = decide (C = 0) := by rw [Bool.eq_iff_iff, decide_eq_true_iff, decide_eq_true_iff]; exact HBeg.out
                  rw [hd] at hb
                  clear hd
                  have g1 : decide ((NX : Int) ≤ (NY : Int)) = true := by simpa using hle
                  go_wp2_with fail
                  go_meet
                  exact ⟨rfl, rfl⟩
                · have hd : decide (C = 0) = false := by
                    rw [decide_eq_false_iff_not]
                    intro hc
                    have := congrArg List.length (HBeg.out.2 hc)
                    rw [List.length_take, ← HNX.out, ← HNY.out] at this
                    omega
                  have g1 : decide ((NX : Int) ≤ (NY : Int)) = false := by simpa using hle
                  replace hd : Hid _ := hd
                  go_wp2_with fail
                  go_meet
                  exact ⟨by rw [hd.out], rfl⟩
              case rest =>
                obtain ⟨rfl, hw⟩ := hcut
                subst hw
                have HX : Hid (∀ w, _) := fun w => text_any (strOfNums KX) (strOfNums KY) w (by omega) (by omega)
                rw [nums_str hXu, nums_str hYu, HLex.out] at HX
                have heq := fun w => run_eq (k := k) (i := i) (s := s) w
                obtain ⟨x0, x1, x2⟩ := X
                obtain ⟨y0, y1, y2⟩ := Y
                obtain ⟨v0, v1, v2⟩ := V
                clear HLex HBeg
                go_wp2_with fail
                refine Calls.mono (HX.out _) ?_
                rintro e u1 ⟨rfl, hc1⟩
                replace hB10 := Below.on hB10 hc1
                replace x0 := cell_later hc1 x0
                replace x1 := cell_later hc1 x1
                replace x2 := cell_later hc1 x2
                replace y0 := cell_later hc1 y0
                replace y1 := cell_later hc1 y1
                replace y2 := cell_later hc1 y2
                replace v0 := cell_later hc1 v0
                replace v1 := cell_later hc1 v1
                replace v2 := cell_later hc1 v2
                clear HX hc1
                by_cases hc : C = 0
                · obtain ⟨rfl, rfl, rfl⟩ := HSame.out.1 hc
                  subst hc
                  clear HSame HVal
                  go_wp2
                  go_ret
                  exact ⟨rfl, hB10⟩
                · have hne := run_ne (fun q => hc (HSame.out.2 q)) (k := k) (i := i) (s := s) (k' := k') (i' := i') (s' := s')
                  have hd : decide (C = 0) = false := decide_eq_false hc
                  rw [hd]
                  clear HSame HVal hd hc
                  go_wp2
                  go_ret
                  exact ⟨rfl, hB10⟩

end Go.Proofs.Ytmeiloghgoohmaa
