/- The walk of RowBack. -/
import Derived.Test.YtdeplfhkeneabaaRa
namespace Go.Proofs.Ytdeplfhkeneabaa
open Go.RowKit
set_option linter.unusedVariables false

set_option maxRecDepth 100000 in
set_option maxHeartbeats 4000000 in
theorem rowBack_any (ao : Option Addr) (n c : Nat) (vs : List Vl) (bo : Option Addr) (m d : Nat) (bs : List Int) (kc x : Int) (w : World) (h : RdV w ao n c vs) (hs : Sized vs) (hf : Fit vs) (k : Rd .u8 w bo m d bs) (hu : U8 bs) (hk : Fits kc) (hx : 0 ≤ x ∧ x ≤ 255) :
    Calls Try.prog 4 #[.slice ao n c, .slice bo m d, .int .i64 kc, .int .u8 x] w fun e w' => e = .returned (.bool true) ∧ Below w.heap.size w w' := by
  have H0 : Hid _ := begun_any w
  have HG : Hid (∀ w', Below w.heap.size w w' → _) := fun w' hb => light_any ao n c vs w' (h.later hb) hs
  have hmd := k.cap
  have hdm := k.max
  go_enter Try.func4, Try.ntmps4
  go_wp2_with fail
  refine Calls.mono H0.out ?_
  rintro e w1 ⟨rfl, hb1⟩
  clear H0
  cases el : lightB vs with
  | false =>
    rw [el] at HG
    go_wp2_with fail
    refine Calls.mono (HG.out _ hb1) ?_
    rintro e w2 ⟨rfl, rfl⟩
    clear HG el h k
    go_wp2
    go_ret
    exact ⟨rfl, hb1⟩
  | true =>
    rw [el] at HG
    by_cases h500 : 500 < m
    · have g : decide ((500 : Int) < (m : Int)) = true := by simp; omega
      go_wp2_with fail
      refine Calls.mono (HG.out _ hb1) ?_
      rintro e w2 ⟨rfl, rfl⟩
      clear HG el h k
      go_wp2
      go_ret
      exact ⟨rfl, hb1⟩
    · have g : decide ((500 : Int) < (m : Int)) = false := by simp; omega
      have HT : Hid (∀ w', Below w.heap.size w w' → _) := fun w' hb => takeRow_any bo m d bs w' (k.later hb) hu
      obtain ⟨ok1, ok2⟩ := rowV_ok hu
      have HPr : Hid (rowE bs = 0 → putL (rowV bs) = bs) := fun he => putL_read he hu
      have HK : Hid (∀ w', Below w.heap.size w w' → Rd .u8 w' bo m d bs) := fun w' hb => k.later hb
      have HH : Hid (∀ w', Below w.heap.size w w' → RdV w' ao n c vs) := fun w' hb => h.later hb
      clear h k el
      generalize rowE bs = E at *
      generalize rowV bs = V at *
      go_wp2_with fail
      refine Calls.mono (HG.out _ hb1) ?_
      rintro e w2 ⟨rfl, rfl⟩
      clear HG
      go_wp2_with fail
      refine Calls.mono (HT.out _ hb1) ?_
      rintro e w3 ⟨o3, p3, q3, rfl, hr3, hb3⟩
      have hB3 := Below.on hb1 hb3
      clear HT hb1 hb3
      go_upto_region 6 with fail
      go_cut [42] (fun v w' => v = .bool false ∧ Below w3.heap.size w3 w')
      case first =>
        have hC : Below w3.heap.size w3 w3.drew := (Below.refl _ _).drew
        have cB := conv_all (HK.out _ (Below.on hB3 hC))
        by_cases he : E = 0
        · subst he
          have HP : Hid (∀ w', Below w3.heap.size w3 w' → _) := fun w' hb => put_any o3 p3 q3 V w' (hr3.later hb) ok1 ok2
          rw [HPr.out rfl] at HP
          clear hr3 HPr
          go_region_held (fun w' => True) (trivial)
            ((go_at_call 12; refine Calls.mono (HP.out _ hC) ?_; rintro e y ⟨oA, pA, qA, rfl, hrA, hby⟩; replace hC := Below.on hC hby; have cA := conv_all hrA; have cB2 := conv_all (HK.out _ (Below.on hB3 hC))))
          all_goals
            go_wp2_with fail
            go_meet
            exact ⟨rfl, hC⟩
        · have g0 : (E == 0) = false := by simpa using he
          clear HPr hC cB
          go_quiet (fail)
          go_wp2_with fail
          go_meet
          exact ⟨rfl, below_drewN (Below.refl _ _) _⟩
      case rest =>
        obtain ⟨rfl, hbc⟩ := hcut
        have hB := Below.on hB3 hbc
        clear hbc hB3 hr3 HPr ok1 ok2 HK
        have HM := mayRow_any ao n c vs wc (HH.out wc hB) hs
        have HP : Hid (∀ w', Below w.heap.size w w' → _) := fun w' hb => put_any ao n c vs w' (HH.out w' hb) hs hf
        cases em : mayR vs with
        | false =>
          rw [em] at HM
          have e : putL vs = [] := by rw [putL, em]; rfl
          rw [e] at HP
          replace HM : Hid _ := HM
          clear em e
          go_wp2_with fail
          refine Calls.mono HM.out ?_
          rintro e w4 ⟨rfl, hb4⟩
          have hB4 := Below.on hB hb4
          clear HM hb4
          go_wp2_with fail
          refine Calls.mono (HP.out _ hB4) ?_
          rintro e w5 ⟨oA, pA, qA, rfl, hrA, hb5⟩
          obtain rfl : pA = 0 := hrA.len.symm
          have hB5 := Below.on hB4 hb5
          clear HP hrA hb5
          go_wp2
          go_ret
          exact ⟨rfl, hB5⟩
        | true =>
          rw [em] at HM
          have e : putL vs = rowL vs := by rw [putL, em]; rfl
          rw [e] at HP
          obtain ⟨hE, hV⟩ := row_back em hf
          have hEm := row_more em hf x
          have HEc : Hid (∀ q, q < (rowL vs).length → rowE ((rowL vs).take q) = 2) := fun q hq => row_cut em hf hq
          have hll := rowL_len em
          have hl0 : 1 ≤ (rowL vs).length := by rw [rowL]; simp
          have hub := rowL_u8 em
          replace HM : Hid _ := HM
          clear em e
          generalize rowL vs = L at *
          go_wp2_with fail
          refine Calls.mono HM.out ?_
          rintro e w4 ⟨rfl, hb4⟩
          have hB4 := Below.on hB hb4
          clear HM hb4 hB
          go_wp2_with fail
          refine Calls.mono (HP.out _ hB4) ?_
          rintro e w5 ⟨oA, pA, qA, rfl, hrA, hb5⟩
          have hB5 := Below.on hB4 hb5
          have hpl := hrA.len
          clear HP hb5 hB4
          have HT2 := takeRow_any oA pA qA L w5 hrA hub
          rw [hE, hV] at HT2
          replace HT2 : Hid _ := HT2
          clear hE hV
          have hp200 : pA < 200 := by omega
          have hp1 : 1 ≤ pA := by omega
          rw [hpl] at HEc
          replace hpl : Hid _ := hpl
          clear hll hl0
          go_wp2_with fail
          refine Calls.mono HT2.out ?_
          rintro e w6 ⟨o6, p6, q6, rfl, hr6, hb6⟩
          have hB6 := Below.on hB5 hb6
          have hr7 := hrA.later hb6
          clear HT2 hrA hb6 hB5
          go_wp2_with fail
          refine Calls.mono (place_any kc pA w6 hp1 (by omega) hk) ?_
          rintro e w7 ⟨⟨r, hr, rfl⟩, rfl⟩
          obtain ⟨ao', p', d', hsl, hsr⟩ := slice_upto hr7 (r := r) (by omega)
          have HT3 := takeRow_any ao' p' d' (L.take r) w7 (hsr w7 hr7) (fun y hy => hub y (List.mem_of_mem_take hy))
          rw [HEc.out r hr] at HT3
          replace HT3 : Hid _ := HT3
          clear hsr HEc
          go_wp2_with fail
          refine Calls.mono HT3.out ?_
          rintro e w8 ⟨o8, p8, q8, rfl, _, hb8⟩
          have hB8 := Below.on hB6 hb8
          have hr8 := hr7.later hb8
          have hy8 := hr6.later hb8
          clear HT3 hr7 hr6 hb8 hsl hB6
          have hb9 : Below w8.heap.size w8 (w8.alloc (.cells #[] 5)) := (Below.refl _ _).alloc (Nat.le_refl _) _
          have ho9 : Own w8.heap.size (w8.alloc (.cells #[] 5)) (.slice (some ⟨w8.heap.size, 0, none⟩) 0 0) [] := World.ownsRow_made (size := 1) (e := 5) (base := w8.heap.size) w8 #[] 0 (Nat.le_refl _) (Nat.zero_le _) rfl
          go_wp2_with (first | (at_builtin; refine wpList_app rfl (.tmp 68) (.tmp 69) 23 rfl w8.heap.size _ _ [] L rfl rfl ho9 (SrcB.ofRd (hr8.later hb9)) (by have := hpl.out; simp; omega) hb9.size ?_) | fail)
          intro v10 w10 ho10 hb10 hn10
          replace ho10 : Own w8.heap.size w10 v10 L := ho10
          have hb10' : Below w8.heap.size w8 w10 := hb9.trans hb10
          clear hb10 hn10 ho9 hb9
          go_wp2_with (first | (at_builtin; refine wpList_app rfl (.tmp 70) (.tmp 72) 23 rfl w8.heap.size _ _ L [x] rfl rfl (ho10.alloc _) (SrcB.one w10 x) (by have := hpl.out; simp; omega) (by have := hb10'.size; simp; omega) ?_) | fail)
          intro v11 w11 ho11 hb11 hn11
          have hb11' : Below w8.heap.size w8 w11 := (hb10'.alloc hb10'.size _).trans hb11
          clear hb11 hn11 ho10 hb10'
          obtain ⟨o11, q11, rfl, hr11⟩ := ho11.rd
          have HT4 := takeRow_any o11 _ q11 (L ++ [x]) w11 hr11 (fun y hy => by
            rw [List.mem_append, List.mem_singleton] at hy
            rcases hy with hy | rfl
            · exact hub y hy
            · exact hx)
          rw [hEm] at HT4
          obtain ⟨p11, hp11⟩ : ∃ p, p = (L ++ [x]).length := ⟨_, rfl⟩
          rw [← hp11] at HT4 ⊢
          replace HT4 : Hid _ := HT4
          clear ho11 hr11 hp11 hEm
          go_wp2_with fail
          refine Calls.mono HT4.out ?_
          rintro e w12 ⟨o12, p12, q12, rfl, _, hb12⟩
          have hB12 := Below.on (Below.on hB8 hb11') hb12
          have HS := sameRow_any o6 ao p6 q6 n c vs vs w12 ((hy8.later hb11').later hb12) (HH.out w12 hB12)
          rw [decide_eq_true rfl] at HS
          replace HS : Hid _ := HS
          clear HT4 hy8 hr8 hb11' hb12 hB8
          go_wp2_with fail
          refine Calls.mono HS.out ?_
          rintro e w13 ⟨rfl, hb13⟩
          have hB13 := Below.on hB12 hb13
          clear HS hb13 hB12
          go_wp2
          go_ret
          exact ⟨ret_bool (decide_eq_true (by omega)), hB13⟩

end Go.Proofs.Ytdeplfhkeneabaa
