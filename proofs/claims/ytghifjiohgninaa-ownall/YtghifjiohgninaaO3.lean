/- The walks of 'own.May' and 'quarantineref1.Own'. -/
import Derived.Test.YtghifjiohgninaaO2
import Derived.Test.YtghifjiohgninaaS16
namespace Go.Proofs.Ytghifjiohgninaa
open Go.RowKit
set_option linter.unusedVariables false

/-- What is told of a door that strips these tags, by who owns those. -/
def ownE (O xs : List Int) : Int := if (allL xs).length ≤ 8 then (if (minusL (allL xs) O).length = 0 then 0 else 17) else 7

set_option maxRecDepth 100000 in
theorem ownMay_any (oo : Option Addr) (l f : Nat) (O : List Int) (ao : Option Addr) (n c : Nat) (xs : List Int) (w : World) (ho : Rd .u16 w oo l f O) (h : Rd .u16 w ao n c xs) (ro : risesB O = true) (hl : l ≤ 100) (hn : n < 50) :
    Calls Try.prog 8 #[.slice oo l f, .slice ao n c] w fun e w' => e = .returned (.int .i64 (ownE O xs)) ∧ Below w.heap.size w w' := by
  by_cases hf : (allL xs).length ≤ 8
  · have HN := norm_made ao n c xs (allL xs) 0 (show (_ ∧ _) from ⟨by rw [nrm, if_pos hf], by rw [nrmE, if_pos hf]⟩) w h hn
    replace HN : Hid _ := HN
    have ru := rises_of_up (up_all xs)
    have hown : ownE O xs = if (minusL (allL xs) O).length = 0 then 0 else 17 := by rw [ownE, if_pos hf]
    replace hown : Hid _ := hown
    obtain ⟨T, hT⟩ : ∃ T, T = allL xs := ⟨_, rfl⟩
    rw [← hT] at HN hf ru hown
    clear hT
    go_enter Try.func8, Try.ntmps8
    go_wp2_with fail
    refine Calls.mono HN.out ?_
    rintro e w1 ⟨xo, q, rfl, hr, -, hb1⟩
    clear HN
    have hal : Below w1.heap.size w1 (w1.alloc (.cells #[.slice oo l f] 23)) := (Below.refl w1.heap.size w1).alloc (Nat.le_refl _) _
    have hc : (w1.alloc (.cells #[.slice oo l f] 23)).cell? ⟨w1.heap.size, 0, none⟩ = some (.slice oo l f) := by simp [World.cell?_alloc_at]
    have HL := left_one xo oo T.length q l f w1.heap.size T O _ (hr.later hal) ((ho.later hb1).later hal) ru ro (by omega) hl hc
    replace HL : Hid _ := HL
    go_wp2_with fail
    refine Calls.mono HL.out ?_
    rintro e w2 ⟨o2, p2, q2, rfl, hr2, hb2⟩
    have hB2 : Below w.heap.size w w2 := hb1.trans ((hal.trans (hb2.mono (by simp))).mono hb1.size)
    have lp := hr2.len
    rw [lp] at hown
    clear HL hb2 hr2 hal hc lp
    by_cases h0 : p2 = 0
    · subst h0
      go_wp2
      go_ret
      exact ⟨ret_int (by rw [hown.out]; rfl), hB2⟩
    · have g1 : decide ((0 : Int) < (p2 : Int)) = true := by simp; omega
      have g2 : decide (0 < p2) = true := by simp; omega
      go_wp2
      go_ret
      exact ⟨ret_int (by rw [hown.out, if_neg h0]), hB2⟩
  · have HN := norm_made ao n c xs [] 7 (show (_ ∧ _) from ⟨by rw [nrm, if_neg hf], by rw [nrmE, if_neg hf]⟩) w h hn
    replace HN : Hid _ := HN
    have hown : ownE O xs = 7 := by rw [ownE, if_neg hf]
    replace hown : Hid _ := hown
    clear hf
    go_enter Try.func8, Try.ntmps8
    go_wp2_with fail
    refine Calls.mono HN.out ?_
    rintro e w1 ⟨xo, q, rfl, hr, -, hb1⟩
    go_wp2
    go_ret
    exact ⟨ret_int hown.out.symm, hb1⟩

theorem allIn_minus {T O : List Int} (rt : risesB T = true) (ro : risesB O = true) (hl : T.length + O.length < 300) : allIn T O = decide ((minusL T O).length = 0) := by
  rw [Bool.eq_iff_iff, decide_eq_true_iff, mem_nil_iff, allIn, List.all_eq_true]
  constructor
  · intro h z
    rw [mem_minus (up_of_rises rt) (up_of_rises ro) hl]
    rintro ⟨hz, e⟩
    have := h z hz
    simp [inB] at this
    exact e this
  · intro h z hz
    have := h z
    rw [mem_minus (up_of_rises rt) (up_of_rises ro) hl] at this
    simp [inB]
    exact Classical.byContradiction fun e => this ⟨hz, e⟩

set_option maxRecDepth 100000 in
theorem refOwn_any (oo : Option Addr) (l f : Nat) (O : List Int) (ao : Option Addr) (n c : Nat) (xs : List Int) (w : World) (ho : Rd .u16 w oo l f O) (h : Rd .u16 w ao n c xs) (ro : risesB O = true) (hl : l ≤ 100) (hn : n ≤ 1000) :
    Calls Try.prog 9 #[.slice oo l f, .slice ao n c] w fun e w' => e = .returned (.int .i64 (ownE O xs)) ∧ Below w.heap.size w w' := by
  have lo := ho.len
  by_cases hf : (allL xs).length ≤ 8
  · have HN := refNorm_made ao n c xs (allL xs) 0 (show (_ ∧ _) from ⟨by rw [nrm, if_pos hf], by rw [nrmE, if_pos hf]⟩) w h hn
    replace HN : Hid _ := HN
    have ru := rises_of_up (up_all xs)
    have hin := allIn_minus ru ro (by omega)
    have hown : ownE O xs = if (minusL (allL xs) O).length = 0 then 0 else 17 := by rw [ownE, if_pos hf]
    replace hown : Hid _ := hown
    obtain ⟨T, hT⟩ : ∃ T, T = allL xs := ⟨_, rfl⟩
    rw [← hT] at HN hf ru hown hin
    clear hT
    by_cases h0 : (minusL T O).length = 0
    · rw [if_pos h0] at hown
      rw [h0] at hin
      replace hin : allIn T O = true := by rw [hin]; rfl
      go_enter Try.func9, Try.ntmps9
      go_wp2_with fail
      refine Calls.mono HN.out ?_
      rintro e w1 ⟨xo, p, q, rfl, hr, hb1⟩
      clear HN
      go_wp2_with fail
      refine Calls.mono (refFlows_any xo oo p q l f T O w1 hr (ho.later hb1)) ?_
      rintro e wx ⟨rfl, hxx⟩
      rw [hxx, hin]
      clear hxx hin
      go_wp2
      go_ret
      exact ⟨ret_int hown.out.symm, hb1⟩
    · rw [if_neg h0] at hown
      replace hin : allIn T O = false := by rw [hin]; simpa using h0
      clear h0
      go_enter Try.func9, Try.ntmps9
      go_wp2_with fail
      refine Calls.mono HN.out ?_
      rintro e w1 ⟨xo, p, q, rfl, hr, hb1⟩
      clear HN
      go_wp2_with fail
      refine Calls.mono (refFlows_any xo oo p q l f T O w1 hr (ho.later hb1)) ?_
      rintro e wx ⟨rfl, hxx⟩
      rw [hxx, hin]
      clear hxx hin
      go_wp2
      go_ret
      exact ⟨ret_int hown.out.symm, hb1⟩
  · have HN := refNorm_made ao n c xs [] 7 (show (_ ∧ _) from ⟨by rw [nrm, if_neg hf], by rw [nrmE, if_neg hf]⟩) w h hn
    replace HN : Hid _ := HN
    have hown : ownE O xs = 7 := by rw [ownE, if_neg hf]
    replace hown : Hid _ := hown
    clear hf
    go_enter Try.func9, Try.ntmps9
    go_wp2_with fail
    refine Calls.mono HN.out ?_
    rintro e w1 ⟨xo, p, q, rfl, hr, hb1⟩
    go_wp2
    go_ret
    exact ⟨ret_int hown.out.symm, hb1⟩

end Go.Proofs.Ytghifjiohgninaa
