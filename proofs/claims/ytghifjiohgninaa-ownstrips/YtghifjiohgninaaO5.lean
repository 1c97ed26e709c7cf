/- The walk of 'OwnStrips': it answers true at every two labels, and at whatever else; nothing is turned. -/
import Derived.Test.YtghifjiohgninaaO4
namespace Go.Proofs.Ytghifjiohgninaa
open Go.RowKit
set_option linter.unusedVariables false

/-- What is stripped: plain facts. -/
theorem strip_facts {A B : List Int} (ra : risesB A = true) (rb : risesB B = true) (la : A.length ≤ 8) (lb : B.length ≤ 8) :
    sameB (minusL A B) (minusL (minusL A B) B) = true ∧ allIn (minusL A B) A = true ∧ (keepIn true (minusL A B) B).length = 0 ∧ sameB (allL (minusL A B ++ B)) (allL (A ++ B)) = true ∧ flB A (minusL A B) B = true := by
  have ua := up_of_rises ra
  have ub := up_of_rises rb
  have rs := minus_rises ra rb (by omega)
  have ls := minus_len ra rb (by omega)
  have us := up_of_rises rs
  have ms : ∀ z, z ∈ minusL A B ↔ z ∈ A ∧ z ∉ B := mem_minus ua ub (by omega)
  refine ⟨sameB_of (up_ext us (up_merge us ub (by omega)) fun z => ?_), ?_, ?_, sameB_of (up_ext (up_all _) (up_all _) fun z => ?_), (fl_iff ra rs rb (by omega) (by omega) (by omega)).2 fun z hz => ?_⟩
  · rw [mem_minus us ub (by omega), ms]
    exact ⟨fun h => ⟨h, h.2⟩, fun h => h.1⟩
  · rw [allIn, List.all_eq_true]
    intro z hz
    simp [inB]
    exact ((ms z).1 hz).1
  · rw [mem_nil_iff]
    intro z hz
    simp [keepIn, inB] at hz
    exact ((ms z).1 hz.1).2 hz.2
  · rw [mem_all, mem_all, List.mem_append, List.mem_append, ms]
    constructor
    · rintro (⟨h, _⟩ | h) <;> simp [h]
    · rintro (h | h)
      · by_cases e : z ∈ B
        · exact .inr e
        · exact .inl ⟨h, e⟩
      · exact .inr h
  · by_cases e : z ∈ B
    · exact .inl e
    · exact .inr ((ms z).2 ⟨hz, e⟩)

set_option maxRecDepth 100000 in
set_option maxHeartbeats 4000000 in
theorem ownStrips_any (ao bo : Option Addr) (n c m d : Nat) (A B : List Int) (w : World) (ha : Rd .u16 w ao n c A) (hb : Rd .u16 w bo m d B) :
    Calls Try.prog 5 #[.slice ao n c, .slice bo m d] w fun e w' => e = .returned (.bool true) ∧ Below w.heap.size w w' := by
  have hB0 : Below w.heap.size w w := Below.refl _ _
  cases ea : mayB A with
  | false =>
    go_enter Try.func5, Try.ntmps5
    go_wp2_with fail
    refine Calls.mono (begun_any w) ?_
    rintro e w1 ⟨rfl, hb1⟩
    have hB1 : Below w.heap.size w w1 := hB0.trans (hb1.mono hB0.size)
    go_wp2_with fail
    refine Calls.mono (refMay_b ao n c A w1 (ha.later hB1)) ?_
    rintro e w2 ⟨rfl, hb2⟩
    have hB2 : Below w.heap.size w w2 := hB1.trans (hb2.mono hB1.size)
    go_wp2
    go_ret
    exact ⟨rfl, hB2⟩
  | true =>
    cases eb : mayB B with
    | false =>
      go_enter Try.func5, Try.ntmps5
      go_wp2_with fail
      refine Calls.mono (begun_any w) ?_
      rintro e w1 ⟨rfl, hb1⟩
      have hB1 : Below w.heap.size w w1 := hB0.trans (hb1.mono hB0.size)
      go_wp2_with fail
      refine Calls.mono (refMay_b ao n c A w1 (ha.later hB1)) ?_
      rintro e w2 ⟨rfl, hb2⟩
      have hB2 : Below w.heap.size w w2 := hB1.trans (hb2.mono hB1.size)
      go_wp2_with fail
      refine Calls.mono (refMay_b bo m d B w2 (hb.later hB2)) ?_
      rintro e w3 ⟨rfl, hb3⟩
      have hB3 : Below w.heap.size w w3 := hB2.trans (hb3.mono hB2.size)
      go_wp2
      go_ret
      exact ⟨rfl, hB3⟩
    | true =>
      obtain ⟨ra, la⟩ := mayB_true ea
      have na := ha.len
      obtain ⟨rb, lb⟩ := mayB_true eb
      have nb := hb.len
      have rs := minus_rises ra rb (by omega)
      have ls := minus_len ra rb (by omega)
      obtain ⟨f1, f2, f3, f4, f5⟩ := strip_facts ra rb la lb
      go_enter Try.func5, Try.ntmps5
      go_wp2_with fail
      refine Calls.mono (begun_any w) ?_
      rintro e w1 ⟨rfl, hb1⟩
      have hB1 : Below w.heap.size w w1 := hB0.trans (hb1.mono hB0.size)
      go_wp2_with fail
      refine Calls.mono (refMay_b ao n c A w1 (ha.later hB1)) ?_
      rintro e w2 ⟨rfl, hb2⟩
      have hB2 : Below w.heap.size w w2 := hB1.trans (hb2.mono hB1.size)
      go_wp2_with fail
      refine Calls.mono (refMay_b bo m d B w2 (hb.later hB2)) ?_
      rintro e w3 ⟨rfl, hb3⟩
      have hB3 : Below w.heap.size w w3 := hB2.trans (hb3.mono hB2.size)
      clear hb1 hb2 hb3 hB1 hB2
      go_wp2_with fail
      refine Calls.mono (strip_any ao bo n c m d A B w3 (ha.later hB3) (hb.later hB3) ra rb (by omega) (by omega)) ?_
      rintro e w4 ⟨so, sp, sq, rfl, hs, hb4⟩
      have hB4 : Below w.heap.size w w4 := hB3.trans (hb4.mono hB3.size)
      have np := hs.len
      clear hb4 hB3 ea eb
      go_wp2_with fail
      refine Calls.mono (strip_any so bo sp sq m d (minusL A B) B w4 hs (hb.later hB4) rs rb (by omega) (by omega)) ?_
      rintro e w5 ⟨tw, tp, tq, rfl, ht, hb5⟩
      have hB5 : Below w.heap.size w w5 := hB4.trans (hb5.mono hB4.size)
      replace hs := hs.later hb5
      clear hb5 hB4
      go_wp2_with fail
      refine Calls.mono (same_any so tw sp sq tp tq (minusL A B) (minusL (minusL A B) B) w5 hs ht) ?_
      rintro e w6 ⟨rfl, hb6⟩
      have hB6 : Below w.heap.size w w6 := hB5.trans (hb6.mono hB5.size)
      replace hs := hs.later hb6
      rw [f1]
      clear hb6 hB5 ht f1
      go_wp2_with fail
      refine Calls.mono (refFlows_any so ao sp sq n c (minusL A B) A w6 hs (ha.later hB6)) ?_
      rintro e wx ⟨rfl, hxx⟩
      rw [hxx, f2]
      clear hxx f2
      go_wp2_with fail
      refine Calls.mono (refMeet_any so bo sp sq m d (minusL A B) B w6 hs (hb.later hB6) (by omega)) ?_
      rintro e w7 ⟨ko, kp, kq, rfl, hk, hb7⟩
      have hB7 : Below w.heap.size w w7 := hB6.trans (hb7.mono hB6.size)
      replace hs := hs.later hb7
      obtain rfl : kp = 0 := by rw [← hk.len]; exact f3
      clear hb7 hB6 hk f3
      go_wp2_with fail
      refine Calls.mono (refJoin_any so bo sp sq m d (minusL A B) B w7 hs (hb.later hB7) (by omega) (by omega)) ?_
      rintro e w8 ⟨jo, jp, jq, rfl, hj, hb8⟩
      have hB8 : Below w.heap.size w w8 := hB7.trans (hb8.mono hB7.size)
      replace hs := hs.later hb8
      clear hb8 hB7
      go_wp2_with fail
      refine Calls.mono (refJoin_any ao bo n c m d A B w8 (ha.later hB8) (hb.later hB8) (by omega) (by omega)) ?_
      rintro e w9 ⟨ho, hp, hq, rfl, hh, hb9⟩
      have hB9 : Below w.heap.size w w9 := hB8.trans (hb9.mono hB8.size)
      replace hs := hs.later hb9
      replace hj := hj.later hb9
      clear hb9 hB8
      go_wp2_with fail
      refine Calls.mono (same_any jo ho jp jq hp hq (allL (minusL A B ++ B)) (allL (A ++ B)) w9 hj hh) ?_
      rintro e w10 ⟨rfl, hb10⟩
      have hB10 : Below w.heap.size w w10 := hB9.trans (hb10.mono hB9.size)
      replace hs := hs.later hb10
      rw [f4]
      clear hb10 hB9 hj hh f4
      go_wp2_with fail
      refine Calls.mono (ownFlows_any ao so bo n c sp sq m d A (minusL A B) B w10 (ha.later hB10) hs (hb.later hB10) ra rs rb (by omega) (by omega) (by omega)) ?_
      rintro e w11 ⟨rfl, hb11⟩
      have hB11 : Below w.heap.size w w11 := hB10.trans (hb11.mono hB10.size)
      rw [f5]
      go_wp2
      go_ret
      exact ⟨rfl, hB11⟩

end Go.Proofs.Ytghifjiohgninaa
