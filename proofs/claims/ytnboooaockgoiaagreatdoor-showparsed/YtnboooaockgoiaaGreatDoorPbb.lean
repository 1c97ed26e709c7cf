import Derived.Test.YtnboooaockgoiaaGreatDoorPaz
import Derived.Test.YtnboooaockgoiaaGreatDoorPba
namespace Go.Proofs.YtnboooaockgoiaaGreatDoor
open Go.RowKit
set_option linter.unusedVariables false
set_option linter.unusedSimpArgs false

theorem WPs.lit (w : World) (L : List ByteArray) : WPs (w.alloc (.cells (L.map Value.string).toArray 9)) w.heap.size 0 L := ⟨fun i hi => by
  have := cell_new w (L.map Value.string).toArray 9 (0, 0) i
  rw [Nat.zero_add, this]
  simp [hi]⟩
/-- words at a row that was just made. -/
theorem words_lit {g : Nat} {v : Sl} {s : Ws} {w : World} (h : Wt w g v s.1 s.2) (L : List ByteArray) {n : Nat} (hn : L.length = n) (hn2 : n ≤ 1000) (hz : (wosS L s).1.length ≤ 700000) :
    Calls Tryz.prog 57 #[.pointer (some ⟨g, 0, none⟩), .slice (some ⟨w.heap.size, 0, none⟩) n n] (w.alloc (.cells (L.map Value.string).toArray 9)) (TeS2 g v w (wosS L s)) :=
  (wWords_any (h.later (bal (Below.refl _ w) _)) hn (Nat.le_refl _) (by omega) (WPs.lit w L) (by simp) (by have := h.lt; omega) (fun e => by have := (h.blk _ e.symm).2; omega) (by have := wosS_le L s; omega)).mono fun _ _ h => h.box
set_option maxRecDepth 100000 in
set_option maxHeartbeats 2000000 in
theorem wTag_any {g : Nat} {v : Sl} {s : Ws} {w : World} (h : Wt w g v s.1 s.2) (he : Ev g w) {z : Int} (h0 : TaOK z) (hz : (taS z s).1.length ≤ 700000) : Calls Tryz.prog 68 #[.pointer (some ⟨g, 0, none⟩), .int .u16 z] w (TeS2 g v w (taS z s)) := by
  have hwr : IntKind.i64.wrap z = z := by
    obtain ⟨h1, h2⟩ := h0
    rw [IntKind.wrap_i64]; omega
  have H : Hid _ := hid (itoa_any h he (n := z) ⟨by have := h0.1; omega, by have := h0.2; omega⟩)
  have HL : Hid _ := hid (woS_le ⟨(Lib.itoa z).toArray⟩ s)
  unfold taS at hz ⊢
  generalize (⟨(Lib.itoa z).toArray⟩ : ByteArray) = D at *
  go_enter Tryz.func68, Tryz.ntmps68
  go_wp2_with fail
  refine Calls.mono H.out ?_
  rintro e w1 ⟨rfl, hb⟩
  have H2 : Hid _ := hid (wWord_any (h.later hb) D (by have := HL.out; omega))
  have HU : Hid (∀ w', WUp g v w1 w' → WUp g v w w') := hid fun w' hu => (WUp.of hb).trans hu (WKp.refl _ _)
  have HK : Hid (∀ v', WKp v v' w1.heap.size → WKp v v' w.heap.size) := hid fun v' hk => (WKp.refl v w.heap.size).trans hk hb.size
  clear H h hb
  go_wp2_with fail
  refine Calls.mono H2.out ?_
  rintro e w2 ⟨v2, rfl, hW2, hU2, hK2⟩
  replace hU2 := HU.out _ hU2
  replace hK2 := HK.out _ hK2
  clear H2
  replace hW2 : Hid _ := hid hW2
  go_wp2
  exact bodyPost_end (results_none rfl _ _ _) rfl ⟨v2, rfl, hW2.out, hU2, hK2⟩
set_option maxRecDepth 100000 in
set_option maxHeartbeats 2000000 in
theorem wBrCol_any {g : Nat} {v : Sl} {s : Ws} {w : World} (h : Wt w g v s.1 s.2) {f : Co → Ws → Ws} (hf : ∀ x s, s.1.length ≤ (f x s).1.length) {L : List Co} {ao : Option Addr} {n c : Nat} {M : Nat}
    (hl : ∀ (v1 : Sl) (s1 : Ws) (w1 : World), Wt w1 g v1 s1.1 s1.2 → WUp g v w w1 → WKp v v1 w.heap.size → (liS f L s1).1.length ≤ 700000 → Calls Tryz.prog 90 #[.pointer (some ⟨g, 0, none⟩), .slice ao n c, .func (.func M) #[.pointer (some ⟨g, 0, none⟩)] #[]] w1 (TeS2 g v1 w1 (liS f L s1))) (hz : (brS f L s).1.length ≤ 700000) :
    Calls Tryz.prog 58 #[.pointer (some ⟨g, 0, none⟩), .slice ao n c, .func (.func M) #[.pointer (some ⟨g, 0, none⟩)] #[]] w (TeS2 g v w (brS f L s)) := by
  have h1 := liS_mo hf L (opS s)
  have h2 := clS_mo (liS f L (opS s))
  have h3 := opS_mo s
  have hz' : (clS (liS f L (opS s))).1.length ≤ 700000 := hz
  have H : Hid _ := hid (wOpen_any h (by omega))
  have HL : Hid _ := hid hl
  have e1 : brS f L s = clS (liS f L (opS s)) := rfl
  rw [e1]
  generalize opS s = s1 at *
  clear h hl hz e1
  go_enter Tryz.func58, Tryz.ntmps58
  go_wp2_with fail
  refine Calls.mono H.out ?_
  rintro e w1 ⟨v1, rfl, hW, hU, hK⟩
  have H2 : Hid _ := hid (HL.out v1 s1 w1 hW hU hK (by omega))
  clear H HL hW
  generalize liS f L s1 = s2 at *
  go_wp2_with fail
  refine Calls.mono H2.out ?_
  rintro e w2 ⟨v2, rfl, hW2, hU2, hK2⟩
  have hU3 := hU.trans hU2 hK
  have hK3 := hK.trans hK2 hU.size
  have H3 : Hid _ := hid (wClose_any hW2 (by omega))
  clear H2 hU2 hK2 hW2
  go_wp2_with fail
  refine Calls.mono H3.out ?_
  rintro e w3 ⟨v3, rfl, hW3, hU4, hK4⟩
  have hU5 := hU3.trans hU4 hK3
  have hK5 := hK3.trans hK4 hU3.size
  clear H3 hU4 hK4 hU3 hK3
  replace hW3 : Hid _ := hid hW3
  go_wp2
  exact bodyPost_end (results_none rfl _ _ _) rfl ⟨v3, rfl, hW3.out, hU5, hK5⟩
set_option maxRecDepth 100000 in
set_option maxHeartbeats 2000000 in
theorem wBrTxt_any {g : Nat} {v : Sl} {s : Ws} {w : World} (h : Wt w g v s.1 s.2) {f : ByteArray → Ws → Ws} (hf : ∀ x s, s.1.length ≤ (f x s).1.length) {L : List ByteArray} {ao : Option Addr} {n c : Nat} {M : Nat}
    (hl : ∀ (v1 : Sl) (s1 : Ws) (w1 : World), Wt w1 g v1 s1.1 s1.2 → WUp g v w w1 → WKp v v1 w.heap.size → (liS f L s1).1.length ≤ 700000 → Calls Tryz.prog 92 #[.pointer (some ⟨g, 0, none⟩), .slice ao n c, .func (.func M) #[.pointer (some ⟨g, 0, none⟩)] #[]] w1 (TeS2 g v1 w1 (liS f L s1))) (hz : (brS f L s).1.length ≤ 700000) :
    Calls Tryz.prog 60 #[.pointer (some ⟨g, 0, none⟩), .slice ao n c, .func (.func M) #[.pointer (some ⟨g, 0, none⟩)] #[]] w (TeS2 g v w (brS f L s)) := by
  have h1 := liS_mo hf L (opS s)
  have h2 := clS_mo (liS f L (opS s))
  have h3 := opS_mo s
  have hz' : (clS (liS f L (opS s))).1.length ≤ 700000 := hz
  have H : Hid _ := hid (wOpen_any h (by omega))
  have HL : Hid _ := hid hl
  have e1 : brS f L s = clS (liS f L (opS s)) := rfl
  rw [e1]
  generalize opS s = s1 at *
  clear h hl hz e1
  go_enter Tryz.func60, Tryz.ntmps60
  go_wp2_with fail
  refine Calls.mono H.out ?_
  rintro e w1 ⟨v1, rfl, hW, hU, hK⟩
  have H2 : Hid _ := hid (HL.out v1 s1 w1 hW hU hK (by omega))
  clear H HL hW
  generalize liS f L s1 = s2 at *
  go_wp2_with fail
  refine Calls.mono H2.out ?_
  rintro e w2 ⟨v2, rfl, hW2, hU2, hK2⟩
  have hU3 := hU.trans hU2 hK
  have hK3 := hK.trans hK2 hU.size
  have H3 : Hid _ := hid (wClose_any hW2 (by omega))
  clear H2 hU2 hK2 hW2
  go_wp2_with fail
  refine Calls.mono H3.out ?_
  rintro e w3 ⟨v3, rfl, hW3, hU4, hK4⟩
  have hU5 := hU3.trans hU4 hK3
  have hK5 := hK3.trans hK4 hU3.size
  clear H3 hU4 hK4 hU3 hK3
  replace hW3 : Hid _ := hid hW3
  go_wp2
  exact bodyPost_end (results_none rfl _ _ _) rfl ⟨v3, rfl, hW3.out, hU5, hK5⟩
set_option maxRecDepth 100000 in
set_option maxHeartbeats 2000000 in
theorem wBrExpr_any {g : Nat} {v : Sl} {s : Ws} {w : World} (h : Wt w g v s.1 s.2) {f : Tr → Ws → Ws} (hf : ∀ x s, s.1.length ≤ (f x s).1.length) {L : List Tr} {ao : Option Addr} {n c : Nat} {M : Nat}
    (hl : ∀ (v1 : Sl) (s1 : Ws) (w1 : World), Wt w1 g v1 s1.1 s1.2 → WUp g v w w1 → WKp v v1 w.heap.size → (liS f L s1).1.length ≤ 700000 → Calls Tryz.prog 65 #[.pointer (some ⟨g, 0, none⟩), .slice ao n c, .func (.func M) #[.pointer (some ⟨g, 0, none⟩)] #[]] w1 (TeS2 g v1 w1 (liS f L s1))) (hz : (brS f L s).1.length ≤ 700000) :
    Calls Tryz.prog 63 #[.pointer (some ⟨g, 0, none⟩), .slice ao n c, .func (.func M) #[.pointer (some ⟨g, 0, none⟩)] #[]] w (TeS2 g v w (brS f L s)) := by
  have h1 := liS_mo hf L (opS s)
  have h2 := clS_mo (liS f L (opS s))
  have h3 := opS_mo s
  have hz' : (clS (liS f L (opS s))).1.length ≤ 700000 := hz
  have H : Hid _ := hid (wOpen_any h (by omega))
  have HL : Hid _ := hid hl
  have e1 : brS f L s = clS (liS f L (opS s)) := rfl
  rw [e1]
  generalize opS s = s1 at *
  clear h hl hz e1
  go_enter Tryz.func63, Tryz.ntmps63
  go_wp2_with fail
  refine Calls.mono H.out ?_
  rintro e w1 ⟨v1, rfl, hW, hU, hK⟩
  have H2 : Hid _ := hid (HL.out v1 s1 w1 hW hU hK (by omega))
  clear H HL hW
  generalize liS f L s1 = s2 at *
  go_wp2_with fail
  refine Calls.mono H2.out ?_
  rintro e w2 ⟨v2, rfl, hW2, hU2, hK2⟩
  have hU3 := hU.trans hU2 hK
  have hK3 := hK.trans hK2 hU.size
  have H3 : Hid _ := hid (wClose_any hW2 (by omega))
  clear H2 hU2 hK2 hW2
  go_wp2_with fail
  refine Calls.mono H3.out ?_
  rintro e w3 ⟨v3, rfl, hW3, hU4, hK4⟩
  have hU5 := hU3.trans hU4 hK3
  have hK5 := hK3.trans hK4 hU3.size
  clear H3 hU4 hK4 hU3 hK3
  replace hW3 : Hid _ := hid hW3
  go_wp2
  exact bodyPost_end (results_none rfl _ _ _) rfl ⟨v3, rfl, hW3.out, hU5, hK5⟩
set_option maxRecDepth 100000 in
set_option maxHeartbeats 2000000 in
theorem wBeh_any {g : Nat} {v : Sl} {s : Ws} {w : World} (h : Wt w g v s.1 s.2) {f : Tr → Ws → Ws} (hf : ∀ x s, s.1.length ≤ (f x s).1.length) {L : List Tr} {ao : Option Addr} {n c : Nat} {M : Nat} (hn : L.length = n) (K : List ByteArray) {m : Nat} (hm : K.length = m) (hm2 : m ≤ 1000)
    (hl : ∀ (v1 : Sl) (s1 : Ws) (w1 : World), Wt w1 g v1 s1.1 s1.2 → WUp g v w w1 → WKp v v1 w.heap.size → (liS f L s1).1.length ≤ 700000 → Calls Tryz.prog 65 #[.pointer (some ⟨g, 0, none⟩), .slice ao n c, .func (.func M) #[.pointer (some ⟨g, 0, none⟩)] #[]] w1 (TeS2 g v1 w1 (liS f L s1))) (hz : (behS f L K s).1.length ≤ 700000) :
    Calls Tryz.prog 66 #[.pointer (some ⟨g, 0, none⟩), .slice ao n c, .func (.func M) #[.pointer (some ⟨g, 0, none⟩)] #[], .slice (some ⟨w.heap.size, 0, none⟩) m m] (w.alloc (.cells (K.map Value.string).toArray 9)) (TeS2 g v w (behS f L K s)) := by
  subst hn
  by_cases h0 : L = []
  · subst h0
    have e : behS f [] K s = s := rfl
    rw [e]
    have hb := bal (Below.refl _ w) (.cells (K.map Value.string).toArray 9)
    have hW := h.later hb
    have hU : WUp g v w (w.alloc (.cells (K.map Value.string).toArray 9)) := WUp.of hb
    generalize w.alloc (.cells (K.map Value.string).toArray 9) = W at *
    clear h hl hz hb e
    replace hW : Hid _ := hid hW
    go_enter Tryz.func66, Tryz.ntmps66
    go_wp2
    exact bodyPost_end (results_none rfl _ _ _) rfl ⟨v, rfl, hW.out, hU, WKp.refl _ _⟩
  · have hp : 0 < L.length := List.length_pos_iff.2 h0
    have hpI : (0 : Int) < (L.length : Int) := by omega
    have g0 : decide ((0 : Int) < (L.length : Int)) = true := by simp; omega
    have g1 : decide (0 < L.length) = true := by simp; omega
    have e : behS f L K s = liS f L (wosS K s) := if_neg h0
    rw [e] at hz ⊢
    have h1 := liS_mo hf L (wosS K s)
    have H : Hid _ := hid (words_lit h K hm hm2 (by omega))
    have HL : Hid _ := hid hl
    generalize w.alloc (.cells (K.map Value.string).toArray 9) = W at *
    generalize hqe : w.heap.size = q at *
    replace hqe : Hid _ := hid hqe
    generalize wosS K s = s1 at *
    clear h hl e h0
    go_enter Tryz.func66, Tryz.ntmps66
    go_wp2_with fail
    refine Calls.mono H.out ?_
    rintro e w1 ⟨v1, rfl, hW, hU, hK⟩
    have H2 : Hid _ := hid (HL.out v1 s1 w1 hW hU (by rw [← hqe.out]; exact hK) (by omega))
    clear H HL hW
    generalize liS f L s1 = s2 at *
    go_wp2_with fail
    refine Calls.mono H2.out ?_
    rintro e w2 ⟨v2, rfl, hW2, hU2, hK2⟩
    have hU3 := hU.trans hU2 hK
    have hK3 := hK.trans hK2 hU.size
    clear H2 hU2 hK2
    replace hW2 : Hid _ := hid hW2
    go_wp2
    exact bodyPost_end (results_none rfl _ _ _) rfl ⟨v2, rfl, hW2.out, hU3, hK3⟩

end Go.Proofs.YtnboooaockgoiaaGreatDoor
namespace Go.Proofs.YtnboooaockgoiaaGreatDoor
open Go.RowKit
set_option linter.unusedVariables false
set_option linter.unusedSimpArgs false

set_option maxRecDepth 100000 in
set_option maxHeartbeats 4000000 in
theorem wCol_any {g : Nat} {v : Sl} {s : Ws} {w : World} (h : Wt w g v s.1 s.2) {c : Co} (hc : CoOK c) (hz : (coS c s).1.length ≤ 700000) {tn tr : ByteArray} {tk : Int} (e : c = (tn, tk, tr)) : Calls Tryz.prog 59 #[.pointer (some ⟨g, 0, none⟩), .agg #[.string tn, .int .i64 tk, .string tr]] w (TeS2 g v w (coS c s)) := by
  subst e
  have hk : tk = 1 ∨ tk = 2 := hc
  have hz1 : (wosS [tn, kiB tk] s).1.length ≤ 700000 := by
    unfold coS at hz
    split at hz
    · exact hz
    · exact Nat.le_trans (wosS_mo _ _) hz
  have hbx := bal (Below.refl _ w) (.cells #[.string tn, .int .i64 tk, .string tr] 62)
  have hlt := h.lt
  have hbk : Blk (w.alloc (.cells #[.string tn, .int .i64 tk, .string tr] 62)) w.heap.size (.cells #[.string tn, .int .i64 tk, .string tr] 62) := Blk.new w _
  have HV : Hid (∀ q, (slV v).ownBlock = some q → q < w.heap.size) := hid fun q e => (h.blk q e).2
  have HO : Hid (∀ w1, Below w.heap.size w w1 → Calls Tryz.prog 57 #[.pointer (some ⟨g, 0, none⟩), .slice (some ⟨w1.heap.size, 0, none⟩) 2 2] (w1.alloc (.cells #[.string tn, .string (kiB tk)] 9)) (TeS2 g v w1 (wosS [tn, kiB tk] s))) := hid fun w1 hb1 => words_lit (h.later hb1) [tn, kiB tk] rfl (by decide) hz1
  have HN : Hid (∀ w1 : World, _) := hid fun w1 => kindWord_any w1 hk
  have HT : Hid (∀ v1 w1, Wt w1 g v1 (wosS [tn, kiB tk] s).1 (wosS [tn, kiB tk] s).2 → ¬ tr = ⟨#[]⟩ → Calls Tryz.prog 57 #[.pointer (some ⟨g, 0, none⟩), .slice (some ⟨w1.heap.size, 0, none⟩) 2 2] (w1.alloc (.cells #[.string ⟨#[114, 101, 102]⟩, .string tr] 9)) (TeS2 g v1 w1 (coS (tn, tk, tr) s))) := hid fun v1 w1 hw1 hr => by
    have e : coS (tn, tk, tr) s = wosS [⟨#[114, 101, 102]⟩, tr] (wosS [tn, kiB tk] s) := if_neg hr
    rw [e] at hz ⊢
    exact words_lit hw1 [⟨#[114, 101, 102]⟩, tr] rfl (by decide) hz
  have HE : Hid (tr = ⟨#[]⟩ → coS (tn, tk, tr) s = wosS [tn, kiB tk] s) := hid fun hr => if_pos hr
  generalize coS (tn, tk, tr) s = Z at *
  generalize wosS [tn, kiB tk] s = Y at *
  generalize kiB tk = D at *
  clear h hc hz hz1 hk
  go_enter Tryz.func59, Tryz.ntmps59
  go_upto_region 1 with fail
  generalize w.alloc (.cells #[.string tn, .int .i64 tk, .string tr] 62) = W at *
  have hqW : w.heap.size < W.heap.size := hbk.lt
  have HU : Hid (∀ w', WUp g v W w' → WUp g v w w') := hid fun w' hu => (WUp.of hbx).trans hu (WKp.refl _ _)
  have HS : Hid (∀ {v' : Sl} {n : Nat}, W.heap.size ≤ n → WKp v v' n → WKp v v' w.heap.size) := hid fun hn hk => (WKp.refl v w.heap.size).trans hk (by omega)
  have HO2 : Hid (∀ w1, Below W.heap.size W w1 → _) := hid fun w1 hb => HO.out w1 (Below.on hbx hb)
  clear HO hbx
  have HK : Hid (∀ w', WUp g v W w' → w'.cell? ⟨w.heap.size, 0, none⟩ = some (.string tn) ∧ w'.cell? ⟨w.heap.size, 1, none⟩ = some (.int .i64 tk) ∧ w'.cell? ⟨w.heap.size, 2, none⟩ = some (.string tr)) := hid fun w' hu => by
    have e := hu.block w.heap.size hqW (by omega) (fun e => by have := HV.out _ e.symm; omega)
    have k := hbk.keep e
    exact ⟨k.cell 0, k.cell 1, k.cell 2⟩
  generalize hqa : w.heap.size = qa at *
  clear hbk HV
  have hC : Below W.heap.size W W.drew := (Below.refl _ W).drew
  have hD : WUp g v W W.drew := WUp.of hC
  go_cut [] (fun w' => ∃ v2, Wt w' g v2 Y.1 Y.2 ∧ WUp g v W w' ∧ WKp v v2 qa)
  case first =>
    go_region_held3 (fun w' => w'.cell? ⟨qa, 0, none⟩ = some (.string tn) ∧ w'.cell? ⟨qa, 1, none⟩ = some (.int .i64 tk)) (first | exact ⟨(HK.out _ hD).1, (HK.out _ hD).2.1⟩ | exact ⟨(HK.out _ (WUp.of (bal hC _))).1, (HK.out _ (WUp.of (bal hC _))).2.1⟩)
      (first
      | (go_at_call 85; (with_reducible refine Calls.mono (HN.out _) ?_); rintro e z1 ⟨rfl, hb1⟩; replace hC := Below.on hC hb1; replace hD : WUp g v W _ := WUp.of hC; clear hb1)
      | (go_at_call 57; (with_reducible refine Calls.mono (HO2.out _ hC) ?_); rintro e z2 ⟨v2, rfl, hW2, hU2, hK2⟩; replace hD := hD.trans hU2 (WKp.refl _ _); replace hK2 := HS.out hC.size hK2; clear hU2; replace hW2 : Hid _ := hid hW2))
    all_goals
      (try go_wp2_with fail)
      go_meet
      exact ⟨v2, hW2.out, hD, hK2⟩
  case rest =>
  obtain ⟨v2, hW2, hU2, hK2⟩ := hcut
  obtain ⟨k0, k1, k2⟩ := HK.out _ hU2
  have hU3 := HU.out _ hU2
  by_cases hr : tr = ⟨#[]⟩
  · replace hW2 : Wt wc g v2 Z.1 Z.2 := by rw [HE.out hr]; exact hW2
    subst hr
    clear HT HE HK HO2 HN HS HU hC hD
    replace hW2 : Hid _ := hid hW2
    go_wp2
    exact bodyPost_end (results_none rfl _ _ _) rfl ⟨v2, rfl, hW2.out, hU3, by rw [hqa]; exact hK2⟩
  · have hi := isEmpty_ne hr
    have H3 : Hid _ := hid (HT.out v2 _ hW2 hr)
    clear HT HE HK HO2 HN HS HU hC hD hr hW2
    go_wp2_with fail
    refine Calls.mono H3.out ?_
    rintro e w4 ⟨v4, rfl, hW4, hU4, hK4⟩
    have hU5 := hU3.trans hU4 (by rw [hqa]; exact hK2)
    have hK5 : WKp v v4 qa := hK2.trans hK4 (by rw [← hqa]; exact hU3.size)
    clear H3 hU4 hK4
    replace hW4 : Hid _ := hid hW4
    go_wp2
    exact bodyPost_end (results_none rfl _ _ _) rfl ⟨v4, rfl, hW4.out, hU5, by rw [hqa]; exact hK5⟩
theorem coB_ge (t n : ByteArray) : t.size + n.size ≤ (coB t n).size := by
  unfold coB
  split
  · rename_i h
    subst h
    exact Nat.le_of_eq (Nat.zero_add _)
  · rw [ByteArray.size_append, ByteArray.size_append]
    omega
set_option maxRecDepth 100000 in
set_option maxHeartbeats 4000000 in
theorem wItem_any {g : Nat} {v : Sl} {s : Ws} {w : World} (h : Wt w g v s.1 s.2) {x : It} (hx : x.1 = 0 ∨ x.1 = 1 ∨ x.1 = 2 ∨ x.1 = 3 ∨ x.1 = 4) (hz : (itS x s).1.length ≤ 700000) {ta : Int} {tt tn : ByteArray} (e : x = (ta, tt, tn)) : Calls Tryz.prog 95 #[.pointer (some ⟨g, 0, none⟩), .agg #[.int .i64 ta, .string tt, .string tn]] w (TeS2 g v w (itS x s)) := by
  subst e
  have hx' : ta = 0 ∨ ta = 1 ∨ ta = 2 ∨ ta = 3 ∨ ta = 4 := hx
  have hlt := h.lt
  have hbx := bal (Below.refl _ w) (.cells #[.int .i64 ta, .string tt, .string tn] 64)
  have hbk : Blk (w.alloc (.cells #[.int .i64 ta, .string tt, .string tn] 64)) w.heap.size (.cells #[.int .i64 ta, .string tt, .string tn] 64) := Blk.new w _
  have HV : Hid (∀ q, (slV v).ownBlock = some q → q < w.heap.size) := hid fun q e => (h.blk q e).2
  have hs0 := itS_mo (ta, tt, tn) s
  have H : Hid _ := hid (wSpace_any (h.later hbx) (by omega))
  have hzz : (puS [coB tt tn] (spS s)).1.length ≤ 700000 ∨ ta = 1 := by
    unfold itS at hz
    dsimp only at hz
    split at hz
    · exact .inl hz
    split at hz
    · rename_i h; exact .inr h
    · rw [← puS_mo, ← puS_mo, ← puS_mo] at hz
      rw [← puS_mo]
      exact .inl (by omega)
  have hq : ta = 1 ∨ (spS s).1.length + tt.size + tn.size ≤ 700000 := by
    rcases hzz with hzz | h1
    · rw [← puS_mo, catN_len1] at hzz
      refine .inr ?_
      have := coB_ge tt tn
      omega
    · exact .inl h1
  have E0 : Hid (ta = 0 → itS (ta, tt, tn) s = puS [coB tt tn] (spS s)) := hid fun h => if_pos h
  have E1 : Hid (ta = 1 → itS (ta, tt, tn) s = puS [⟨#[99, 111, 117, 110, 116, 40, 42, 41]⟩] (spS s)) := hid fun h => by subst h; rfl
  have E2 : Hid (ta = 2 ∨ ta = 3 ∨ ta = 4 → itS (ta, tt, tn) s = puS [⟨#[41]⟩] (puS [coB tt tn] (puS [aggW ta, ⟨#[40]⟩] (spS s)))) := hid fun h => by
    have h0 : ¬ ta = 0 := by omega
    have h1 : ¬ ta = 1 := by omega
    show (if ta = 0 then _ else if ta = 1 then _ else _) = _
    rw [if_neg h0, if_neg h1]
  generalize hZ : itS (ta, tt, tn) s = Z at *
  generalize spS s = Y at *
  go_enter Tryz.func95, Tryz.ntmps95
  go_upto_region 1 with fail
  generalize w.alloc (.cells #[.int .i64 ta, .string tt, .string tn] 64) = W at *
  have hqW : w.heap.size < W.heap.size := hbk.lt
  have HU : Hid (∀ w', WUp g v W w' → WUp g v w w') := hid fun w' hu => (WUp.of hbx).trans hu (WKp.refl _ _)
  have HS : Hid (∀ {v' : Sl} {n : Nat}, W.heap.size ≤ n → WKp v v' n → WKp v v' w.heap.size) := hid fun hn hk => (WKp.refl v w.heap.size).trans hk (by omega)
  have HK : Hid (∀ w', WUp g v W w' → w'.cell? ⟨w.heap.size, 0, none⟩ = some (.int .i64 ta) ∧ w'.cell? ⟨w.heap.size, 1, none⟩ = some (.string tt) ∧ w'.cell? ⟨w.heap.size, 2, none⟩ = some (.string tn)) := hid fun w' hu => by
    have e := hu.block w.heap.size hqW (by omega) (fun e => by have := HV.out _ e.symm; omega)
    have k := hbk.keep e
    exact ⟨k.cell 0, k.cell 1, k.cell 2⟩
  generalize hqa : w.heap.size = qa at *
  clear hbk HV hbx h
  go_wp2_with fail
  refine Calls.mono H.out ?_
  rintro e w1 ⟨v1, rfl, hW1, hU1, hK1⟩
  obtain ⟨k0, k1, k2⟩ := HK.out _ hU1
  clear H
  by_cases h0 : ta = 0
  · have EZ : Hid _ := hid (E0.out h0)
    rw [EZ.out] at hz
    subst h0
    have hq2 : Y.1.length + tt.size + tn.size ≤ 700000 := hq.resolve_left (by decide)
    have H2 : Hid _ := hid (wColumn_any hW1 tt tn (by omega))
    clear E0 E1 E2 hW1 hx hx' hZ hzz hq HK
    go_wp2_with fail
    refine Calls.mono H2.out ?_
    rintro e w2 ⟨v2, rfl, hW2, hU2, hK2⟩
    have hU3 := HU.out _ (hU1.trans hU2 hK1)
    have hK3 := HS.out (Nat.le_refl _) (hK1.trans hK2 hU1.size)
    clear H2 hU2 hK2
    replace hW2 : Hid (Wt w2 g v2 Z.1 Z.2) := hid (by rw [EZ.out]; exact hW2)
    go_wp2
    exact bodyPost_end (results_none rfl _ _ _) rfl ⟨v2, rfl, hW2.out, hU3, by rw [hqa]; exact hK3⟩
  by_cases h1 : ta = 1
  · have EZ : Hid _ := hid (E1.out h1)
    rw [EZ.out] at hz
    subst h1
    have H2 : Hid _ := hid (put1 hW1 ⟨#[99, 111, 117, 110, 116, 40, 42, 41]⟩ (by rw [← puS_mo] at hz; omega))
    clear E0 E1 E2 hW1 hx hx' hZ hzz hq HK
    go_wp2_with fail
    refine Calls.mono H2.out ?_
    rintro e w2 ⟨v2, rfl, hW2, hU2, hK2⟩
    have hU3 := HU.out _ (hU1.trans hU2 hK1)
    have hK3 := HS.out (Nat.le_refl _) (hK1.trans hK2 hU1.size)
    clear H2 hU2 hK2
    replace hW2 : Hid (Wt w2 g v2 Z.1 Z.2) := hid (by rw [EZ.out]; exact hW2)
    go_wp2
    exact bodyPost_end (results_none rfl _ _ _) rfl ⟨v2, rfl, hW2.out, hU3, by rw [hqa]; exact hK3⟩
  have h2 : ta = 2 ∨ ta = 3 ∨ ta = 4 := by omega
  have EZ : Hid _ := hid (E2.out h2)
  rw [EZ.out] at hz
  have e0 : (ta == 0) = false := by simpa using h0
  have e1 : (ta == 1) = false := by simpa using h1
  have hq2 : Y.1.length + tt.size + tn.size ≤ 700000 := hq.resolve_left h1
  have hz1 : Y.1.length + (catN [aggW ta, ⟨#[40]⟩]).length + (catN [coB tt tn]).length + (catN [⟨#[41]⟩]).length ≤ 700000 := by
    rw [← puS_mo, ← puS_mo, ← puS_mo] at hz
    exact hz
  have hco : tt.size + tn.size ≤ (catN [coB tt tn]).length := by
    rw [catN_len1]
    exact coB_ge tt tn
  have H2 : Hid _ := hid (foldWord_any w1 h2)
  have HP : Hid (∀ w', Below w1.heap.size w1 w' → _) := hid fun w' hb => put2 (hW1.later hb) (aggW ta) ⟨#[40]⟩ (by omega)
  generalize aggW ta = D at *
  clear E0 E1 E2 hW1 hx hx' hZ hzz hq h0 h1 h2
  go_wp2_with fail
  refine Calls.mono H2.out ?_
  rintro e w2 ⟨rfl, hb2⟩
  have H3 : Hid _ := hid (HP.out w2 hb2)
  have hU2 : WUp g v W w2 := hU1.trans (WUp.of hb2) hK1
  have hK2 : WKp v v1 W.heap.size := hK1
  clear H2 HP hb2 k0 k1 k2 hU1 hK1
  go_wp2_with fail
  refine Calls.mono H3.out ?_
  rintro e w3 ⟨v3, rfl, hW3, hU3, hK3⟩
  have hU4 := hU2.trans hU3 hK2
  have hK4 := hK2.trans hK3 hU2.size
  obtain ⟨k0, k1, k2⟩ := HK.out _ hU4
  have hW3' : Wt w3 g v3 (puS [D, ⟨#[40]⟩] Y).1 (puS [D, ⟨#[40]⟩] Y).2 := hW3
  have H4 : Hid _ := hid (wColumn_any hW3' tt tn (by rw [← puS_mo]; omega))
  clear H3 hU3 hK3 hU2 hK2 hW3 hW3'
  go_wp2_with fail
  refine Calls.mono H4.out ?_
  rintro e w4 ⟨v4, rfl, hW4, hU5, hK5⟩
  have hU6 := hU4.trans hU5 hK4
  have hK6 := hK4.trans hK5 hU4.size
  have H5 : Hid _ := hid (put1 hW4 ⟨#[41]⟩ (by rw [← puS_mo, ← puS_mo]; omega))
  clear H4 hU5 hK5 hU4 hK4 hW4 k0 k1 k2
  go_wp2_with fail
  refine Calls.mono H5.out ?_
  rintro e w5 ⟨v5, rfl, hW5, hU7, hK7⟩
  have hU8 := HU.out _ (hU6.trans hU7 hK6)
  have hK8 := HS.out (Nat.le_refl _) (hK6.trans hK7 hU6.size)
  clear H5 hU7 hK7
  replace hW5 : Hid (Wt w5 g v5 Z.1 Z.2) := hid (by rw [EZ.out]; exact hW5)
  go_wp2
  exact bodyPost_end (results_none rfl _ _ _) rfl ⟨v5, rfl, hW5.out, hU8, by rw [hqa]; exact hK8⟩

end Go.Proofs.YtnboooaockgoiaaGreatDoor
