import Derived.Test.YtnlaaejdianfjaaGreatQfar
import Derived.Test.YtnlaaejdianfjaaGreatQfai
import Derived.Test.YtnlaaejdianfjaaGreatQfam
namespace Go.Proofs.YtnlaaejdianfjaaGreat
open Go.RowKit
set_option linter.unusedVariables false
set_option linter.unusedSimpArgs false

set_option maxRecDepth 100000 in
set_option maxHeartbeats 4000000 in
theorem selF_any {s : Sv} (h6 : s.k = 6) {n1 n2 : ByteArray} {c1 x1 c2 x2 lr rr : Sl} {w : World} {C : List It} (hC5 : C.length ≤ 500) {Rs : List (List Vt)} (hRs : Rs.length ≤ 500) (hR : ∀ r ∈ Rs, r.length = C.length ∧ ∀ v ∈ r, Fits v.2.1 ∧ v.2.2.size ≤ 281474976710656) {EF : Int}
    (hF : ∀ W, Below w.heap.size w W → Calls Tryz.prog 32 #[stV s, tbV n1 c1 x1, tbV n2 c2 x2, slV lr, slV rr] W (FrP W C Rs EF))
    {l : List (Pg × Tg)} (hl : l.length ≤ 1) (hft : ∀ x ∈ l, ftT x) {Q2 : Nat → Prop} (hw : RowIs eG Q2 w (slV s.wh) l) {its : List It} (hi5 : its.length ≤ 500) {Q1 : Nat → Prop} (hi : RowIs eItem Q1 w (slV s.it) its) (hag : its.any (fun x => !decide (x.1 = 0)) = true) :
    Calls Tryz.prog 12 #[stV s, tbV n1 c1 x1, tbV n2 c2 x2, slV lr, slV rr] w (TeSel w (if EF ≠ 0 then EF else foE C its (fndP (fun r => hoL C r l) Rs)) [foR C its (fndP (fun r => hoL C r l) Rs)]) := by
  have hw3 := bal (bal (bal (Below.refl w.heap.size w) (svR s)) (tbRO n1 c1 x1)) (tbRO n2 c2 x2)
  have bs : Bs (((w.alloc (svR s)).alloc (tbRO n1 c1 x1)).alloc (tbRO n2 c2 x2)) w.heap.size s := (⟨heap_alloc_new w _⟩ : Bs (w.alloc (svR s)) w.heap.size s).later (bal (bal (Below.refl _ _) _) _)
  have bt := (Bk.new (w.alloc (svR s)) (tbRO n1 c1 x1)).later (bal (Below.refl _ _) (tbRO n2 c2 x2))
  have bu := Bk.new ((w.alloc (svR s)).alloc (tbRO n1 c1 x1)) (tbRO n2 c2 x2)
  rw [World.size_alloc] at bt
  rw [World.size_alloc, World.size_alloc] at bu
  have HF : Hid _ := hid hF
  have HW : Hid (∀ w', Below w.heap.size w w' → RowIs eG Q2 w' (slV s.wh) l) := hid fun w' hb => hw.keep (by decide) fun b _ hl => hb.block b hl
  have HI : Hid (∀ w', Below w.heap.size w w' → RowIs eItem Q1 w' (slV s.it) its) := hid fun w' hb => hi.keep (by decide) fun b _ hl => hb.block b hl
  have HR : Hid (∀ r ∈ Rs, r.length = C.length ∧ ∀ v ∈ r, Fits v.2.1) := hid fun r h => ⟨(hR r h).1, fun v hv => ((hR r h).2 v hv).1⟩
  have HRv : Hid (∀ r ∈ (fndP (fun r => hoL C r l) Rs).1, ∀ v ∈ r, Fits v.2.1 ∧ v.2.2.size ≤ 281474976710656) := hid fun r h => (hR r ((fnd_sub (fun r => hoL C r l) Rs).2 r h)).2
  have HFt : Hid _ := hid hft
  have HAg : Hid _ := hid hag
  have hsub := fnd_sub (fun r => hoL C r l) Rs
  have HS : Hid _ := hid hsub.2
  have hF5 : (fndP (fun r => hoL C r l) Rs).1.length ≤ 500 := by omega
  have H6 : Hid (s.k = 6) := hid h6
  obtain ⟨E, hE⟩ : ∃ E, (if EF ≠ 0 then EF else foE C its (fndP (fun r => hoL C r l) Rs)) = E := ⟨_, rfl⟩
  rw [hE]
  have HE : Hid _ := hid hE
  clear hF hw hi hR hft hag hsub h6 hE
  go_enter Tryz.func12, Tryz.ntmps12
  dsimp only [stV]
  go_upto_region 1 with fail
  generalize ((w.alloc (svR s)).alloc (tbRO n1 c1 x1)).alloc (tbRO n2 c2 x2) = W at *
  obtain ⟨q, hq⟩ : ∃ q, w.heap.size = q := ⟨_, rfl⟩
  rw [hq] at bs bt bu
  (try rw [hq])
  obtain ⟨c0, k1, k2, k3, k4, k5, c6, c7, c8, c9, c10, c11, c12⟩ := bs.cells
  have d0 := bt.cell 0
  have d1 := bt.cell 1
  have d2 := bt.cell 2
  have e0 := bu.cell 0
  have e1 := bu.cell 1
  have e2 := bu.cell 2
  simp only [List.getElem?_toArray, List.getElem?_cons_zero, List.getElem?_cons_succ] at d0 d1 d2 e0 e1 e2
  have g6 : (s.k != 6) = false := by rw [H6.out]; rfl
  have g6d : decide (s.k = 6) = true := by rw [H6.out]; rfl
  have HFW : Hid _ := hid (HF.out W hw3)
  dsimp only [stV] at HFW
  clear bt bu HF
  go_wp2_with fail
  with_reducible refine Calls.mono HFW.out ?_
  rintro e w1 ⟨ia, iN, ic, gf, lb, rfl, hb1, hok⟩
  have hB1 := Below.on hw3 hb1
  have bs1 := bs.later hb1
  have HOk : Hid _ := hid hok
  clear HFW hok d0 d1 d2 e0 e1 e2 c0 k1 k2 k3 k4 k5 c6 c7 c8 c9 c10 c11 c12
  by_cases h0 : EF = 0
  · subst h0
    obtain ⟨g, rfl, eg, hrC, hsq⟩ := HOk.out rfl
    obtain ⟨-, -, -, -, -, -, -, -, -, c9, -, -, -⟩ := bs1.cells
    have HSu : Hid (∀ w, _) := hid fun y => suchC_any (ia := ia) (iN := iN) (ic := ic) (wa := s.wh.1) (wn := s.wh.2.1) (wc := s.wh.2.2) (gf := g) (lb := lb) y
    have HrC : Hid (∀ w', Below w1.heap.size w1 w' → RowIs eItem (fun _ => True) w' (.slice ia iN ic) C) := hid fun w' hb => hrC.keep (by decide) fun b _ hl => hb.block b hl
    have HSq : Hid _ := hid hsq
    clear HOk hb1 bs hrC hsq
    go_wp2_with fail
    with_reducible refine Calls.mono (HSu.out _) ?_
    rintro e w2 ⟨b1, b2, b3, rfl, y1, y2, y3, hb2⟩
    have hB2 := Below.on hB1 hb2
    have bs2 := bs1.later hb2
    obtain ⟨-, -, -, -, -, -, c6, -, -, -, -, -, -⟩ := bs2.cells
    have HSe : Hid (SeqW Tryz.prog 62 #[.pointer (some ⟨b1, 0, none⟩), .pointer (some ⟨b2, 0, none⟩), .pointer (some ⟨b3, 0, none⟩)] (fndN (fndP (fun r => hoL C r l) Rs)) (A2 w2.heap.size (fndP (fun r => hoL C r l) Rs)) w2) := hid (such1_any y1 y2 y3 eg (HSq.out.up1 hb2) (holC_of hC5 hl HFt.out (HrC.out _ hb2) (HW.out _ hB2) HR.out))
    have HCt : Hid _ := hid (containsIt_any hi5 (HI.out _ hB2) (folded1_of w2))
    rw [HAg.out] at HCt
    clear HSu y1 y2 y3 c9 bs1 HSq HAg
    go_wp2_with fail
    with_reducible refine Calls.mono HCt.out ?_
    rintro e w3 ⟨rfl, hb3⟩
    have hB3 := Below.on hB2 hb3
    have bs3 := bs2.later hb3
    obtain ⟨c0, k1, k2, k3, k4, k5, c6', c7, c8, c9, c10, c11, c12⟩ := bs3.cells
    have HLi : Hid _ := hid (folded_any (w := w3) hC5 hi5 (HrC.out _ (Below.on hb2 hb3)) (HI.out _ hB3) (fun args w => by rfl) hF5 (HSe.out.up2 hb3) HRv.out)
    (try dsimp only [slV] at HLi)
    clear HCt HSe c6 bs2 hb3 hb2
    go_wp2_with fail
    with_reducible refine Calls.mono HLi.out ?_
    rintro e w4 h4
    have HQ := TeSel.on hB3 h4
    obtain ⟨a4, n4, c4, rfl, q1, q2, hb4⟩ := HQ
    have HQ2 : Hid (TeSel w E [foR C its (fndP (fun r => hoL C r l) Rs)] (.returned (.tuple #[.slice a4 n4 c4, .int .i64 (foE C its (fndP (fun r => hoL C r l) Rs))])) w4) := hid (by rw [← HE.out, if_neg (by simp)]; exact ⟨a4, n4, c4, rfl, q1, q2, hb4⟩)
    clear HLi h4 q1 q2 hb4
    generalize foE C its (fndP (fun r => hoL C r l) Rs) = EE at *
    go_wp2
    exact bodyPost_ret (v := .tuple #[.slice a4 n4 c4, .int .i64 EE]) (by simp [results, Tryz.results12]) rfl HQ2.out
  · have h0' : (EF != 0) = true := by simpa using h0
    have h0d : decide (EF = 0) = false := by simpa using h0
    have HQ : Hid (TeSel w E [foR C its (fndP (fun r => hoL C r l) Rs)] (.returned (.tuple #[.slice none 0 0, .int .i64 EF])) w1) := hid (by rw [← HE.out, if_pos h0]; exact TeSel.fail h0 hB1)
    clear HOk hb1 bs bs1
    go_wp2
    exact bodyPost_ret (v := .tuple #[.slice none 0 0, .int .i64 EF]) (by simp [results, Tryz.results12]) rfl HQ.out

end Go.Proofs.YtnlaaejdianfjaaGreat
namespace Go.Proofs.YtnlaaejdianfjaaGreat
open Go.RowKit
set_option linter.unusedVariables false
set_option linter.unusedSimpArgs false

/-- The value in a column. -/
def cvC (c : Nat) (r : List Vt) : Vt := r.getD c vZ
theorem atP_col {r : List Vt} {c : Nat} (h : c < r.length) : atP r c = (cvC c r, 0) := by
  unfold atP cvC
  rw [List.getElem?_eq_getElem h, List.getD_eq_getElem?_getD, List.getElem?_eq_getElem h]
  rfl
theorem cmpVt_vals (a b : Vt) : cmpVt a b = -1 ∨ cmpVt a b = 0 ∨ cmpVt a b = 1 := cmpV_vals _ _ _ _ _ _
theorem cmpVt_flip (a b : Vt) : cmpVt b a = -cmpVt a b := cmpV_neg _ _ _ _ _ _
theorem cmpVt_tr {a b c : Vt} (h1 : cmpVt a b < 0) (h2 : cmpVt b c < 0) : cmpVt a c < 0 := by
  have e1 : cmpVt a b = -1 := by have := cmpVt_vals a b; omega
  have e2 : cmpVt b c = -1 := by have := cmpVt_vals b c; omega
  have : cmpVt a c = -1 := cmpV_trans e1 e2
  omega
theorem cmpVt_self (a : Vt) : cmpVt a a = 0 := cmpV_zero.2 ⟨rfl, rfl, rfl⟩
/-- What stands first, of a column of rows: of those taken. -/
def BstJ (ag : Int) (c : Nat) (lt : Vt → Vt → Prop) (L : List (List Vt)) (t : Ta) : Prop := ∃ M, t = (ag, (c : Int), (L.length : Int), M, 0) ∧ (L ≠ [] → M ∈ L.map (cvC c) ∧ ∀ v ∈ L.map (cvC c), ¬ lt v M)
theorem bst_step {ag : Int} {c : Nat} {lt : Vt → Vt → Prop} [∀ a b, Decidable (lt a b)] (h1 : ag ≠ 1) (hw : ∀ (n : Int) (m v : Vt), wiP (ag, (c : Int), n, m, 0) v = if n = 1 then (v, 0) else (if lt v m then v else m, 0))
    (tr : ∀ {x y z}, lt x y → lt y z → lt x z) (ir : ∀ x, ¬ lt x x) {L : List (List Vt)} {t : Ta} (h : BstJ ag c lt L t) {r : List Vt} (hr : c < r.length) : BstJ ag c lt (L ++ [r]) (tkP t r) := by
  obtain ⟨M, rfl, hM⟩ := h
  have e : tkP (ag, (c : Int), (L.length : Int), M, 0) r = (ag, (c : Int), (L.length : Int) + 1, (wiP (ag, (c : Int), (L.length : Int) + 1, M, 0) (cvC c r)).1, (wiP (ag, (c : Int), (L.length : Int) + 1, M, 0) (cvC c r)).2) := by
    unfold tkP
    rw [if_neg (by simp), if_neg h1, Int.toNat_natCast, atP_col hr, if_neg (by simp)]
  rw [e, hw]
  by_cases h0 : L = []
  · subst h0
    refine ⟨cvC c r, by simp, fun _ => ⟨by simp, fun v hv => ?_⟩⟩
    have : v = cvC c r := by simpa using hv
    rw [this]; exact ir _
  · have hl : 0 < L.length := List.length_pos_iff.2 h0
    rw [if_neg (by omega)]
    obtain ⟨m1, m2⟩ := hM h0
    refine ⟨if lt (cvC c r) M then cvC c r else M, by simp, fun _ => ?_⟩
    rw [List.map_append]
    by_cases hv : lt (cvC c r) M
    · rw [if_pos hv]
      refine ⟨by simp, fun v hv' => ?_⟩
      rcases List.mem_append.1 hv' with q | q
      · exact fun hlt => m2 v q (tr hlt hv)
      · have : v = cvC c r := by simpa using q
        rw [this]; exact ir _
    · rw [if_neg hv]
      refine ⟨List.mem_append_left _ m1, fun v hv' => ?_⟩
      rcases List.mem_append.1 hv' with q | q
      · exact m2 v q
      · have : v = cvC c r := by simpa using q
        rw [this]; exact hv
theorem bst_fold {ag : Int} {c : Nat} {lt : Vt → Vt → Prop} [∀ a b, Decidable (lt a b)] (h1 : ag ≠ 1) (hw : ∀ (n : Int) (m v : Vt), wiP (ag, (c : Int), n, m, 0) v = if n = 1 then (v, 0) else (if lt v m then v else m, 0))
    (tr : ∀ {x y z}, lt x y → lt y z → lt x z) (ir : ∀ x, ¬ lt x x) : ∀ (L P : List (List Vt)) (t : Ta), BstJ ag c lt P t → (∀ r ∈ L, c < r.length) → BstJ ag c lt (P ++ L) (L.foldl tkP t)
  | [], P, t, h, _ => by rw [List.append_nil]; exact h
  | r :: L, P, t, h, hr => by
    have := bst_fold h1 hw tr ir L (P ++ [r]) (tkP t r) (bst_step h1 hw tr ir h (hr r (List.mem_cons_self ..))) fun x hx => hr x (List.mem_cons_of_mem _ hx)
    rw [List.append_assoc] at this
    exact this
/-- The sum of whole numbers, with its fault. -/
def smF (a : Int × Int) (x : Int) : Int × Int := if a.2 ≠ 0 then a else (nV (a.1 + x), nE (a.1 + x))
def smP (l : List Int) : Int × Int := l.foldl smF (0, 0)
theorem smF_stay : ∀ (l : List Int) (a : Int × Int), a.2 ≠ 0 → l.foldl smF a = a
  | [], _, _ => rfl
  | x :: l, a, h => by rw [List.foldl_cons]; unfold smF; rw [if_pos h]; exact smF_stay l a h
theorem smF_err : ∀ (l : List Int) (a : Int × Int), (a.2 = 0 ∨ a.2 = 8) → (l.foldl smF a).2 = 0 ∨ (l.foldl smF a).2 = 8
  | [], _, h => h
  | x :: l, a, h => by
    rw [List.foldl_cons]
    refine smF_err l _ ?_
    unfold smF
    split
    · exact h
    · dsimp only; unfold nE; split
      · exact .inl rfl
      · exact .inr rfl
theorem smF_ok : ∀ (l : List Int) (a : Int × Int), a.2 = 0 → Fits a.1 → (l.foldl smF a).2 = 0 → (l.foldl smF a).1 = a.1 + l.sum ∧ Fits (l.foldl smF a).1
  | [], a, _, hf, _ => ⟨by simp, hf⟩
  | x :: l, a, h0, hf, h => by
    rw [List.foldl_cons] at h ⊢
    have e : smF a x = (nV (a.1 + x), nE (a.1 + x)) := by unfold smF; rw [if_neg (by simpa using h0)]
    rw [e] at h ⊢
    by_cases hx : Fits (a.1 + x)
    · have e2 : nE (a.1 + x) = 0 := by unfold nE; rw [if_pos hx]
      have e3 : nV (a.1 + x) = a.1 + x := by unfold nV; rw [if_pos hx]
      rw [e2, e3] at h ⊢
      have := smF_ok l (a.1 + x, 0) rfl hx h
      refine ⟨?_, this.2⟩
      rw [this.1, List.sum_cons]
      show a.1 + x + l.sum = a.1 + (x + l.sum)
      omega
    · have e2 : nE (a.1 + x) = 8 := by unfold nE; rw [if_neg hx]
      rw [smF_stay _ _ (by rw [e2]; simp)] at h
      rw [e2] at h
      cases h
theorem smP_err (l : List Int) : (smP l).2 = 0 ∨ (smP l).2 = 8 := smF_err l (0, 0) (.inl rfl)
theorem smP_ok {l : List Int} (h : (smP l).2 = 0) : (smP l).1 = l.sum ∧ Fits l.sum := by
  have := smF_ok l (0, 0) rfl fits00 h
  rw [show (smP l).1 = (l.foldl smF (0, 0)).1 from rfl, this.1] at *
  have h2 := this.2
  rw [this.1] at h2
  simpa using h2
theorem smP_app {l m : List Int} (h : (smP (l ++ m)).2 = 0) : (smP l).2 = 0 := by
  by_cases h0 : (smP l).2 = 0
  · exact h0
  · have : smP (l ++ m) = smP l := by
      unfold smP at *
      rw [List.foldl_append, smF_stay _ _ h0]
    rw [this] at h
    exact h
theorem smP_add {l m : List Int} (h : (smP (l ++ m)).2 = 0) (h2 : (smP m).2 = 0) : nA ((smP l).1 + (smP m).1) = .tuple #[.int .i64 (smP (l ++ m)).1, .int .i64 0] := by
  have e1 := smP_ok h
  have e2 := smP_ok (smP_app h)
  have e3 := smP_ok h2
  rw [e1.1, e2.1, e3.1, ← List.sum_append]
  exact nA_in e1.2
/-- The tally of a sum. -/
def SumJ (c : Nat) (xs : List Int) (t : Ta) : Prop := ((smP xs).2 = 0 ∧ t = (2, (c : Int), (xs.length : Int), (1, (smP xs).1, ⟨#[]⟩), 0)) ∨ ((smP xs).2 = 8 ∧ ∃ n, t = (2, (c : Int), n, (1, 0, ⟨#[]⟩), 8))
theorem sum_step {c : Nat} {xs : List Int} {t : Ta} (h : SumJ c xs t) {r : List Vt} (hr : c < r.length) (hk : (cvC c r).1 = 1) : SumJ c (xs ++ [(cvC c r).2.1]) (tkP t r) := by
  have es : smP (xs ++ [(cvC c r).2.1]) = smF (smP xs) (cvC c r).2.1 := by unfold smP; rw [List.foldl_append]; rfl
  rcases h with ⟨h0, rfl⟩ | ⟨h8, n, rfl⟩
  · have e : tkP (2, (c : Int), (xs.length : Int), (1, (smP xs).1, ⟨#[]⟩), 0) r = (2, (c : Int), (xs.length : Int) + 1, (suP (1, (smP xs).1, ⟨#[]⟩) (cvC c r)).1, (suP (1, (smP xs).1, ⟨#[]⟩) (cvC c r)).2) := by
      unfold tkP
      rw [if_neg (by simp), if_neg (by show ¬ (2 : Int) = 1; decide), Int.toNat_natCast, atP_col hr, if_neg (by simp)]
      unfold wiP
      rw [if_pos rfl]
    have es2 : smF (smP xs) (cvC c r).2.1 = (nV ((smP xs).1 + (cvC c r).2.1), nE ((smP xs).1 + (cvC c r).2.1)) := by unfold smF; rw [if_neg (by simpa using h0)]
    have eu : suP (1, (smP xs).1, ⟨#[]⟩) (cvC c r) = ((1, nV ((smP xs).1 + (cvC c r).2.1), ⟨#[]⟩), nE ((smP xs).1 + (cvC c r).2.1)) := by unfold suP; rw [if_neg (by rw [hk]; simp)]
    rw [e, eu]
    unfold SumJ
    rw [es, es2]
    by_cases hf : Fits ((smP xs).1 + (cvC c r).2.1)
    · have e2 : nE ((smP xs).1 + (cvC c r).2.1) = 0 := by unfold nE; rw [if_pos hf]
      exact .inl ⟨e2, by simp [e2]⟩
    · have e2 : nE ((smP xs).1 + (cvC c r).2.1) = 8 := by unfold nE; rw [if_neg hf]
      have e3 : nV ((smP xs).1 + (cvC c r).2.1) = 0 := by unfold nV; rw [if_neg hf]
      exact .inr ⟨e2, (xs.length : Int) + 1, by simp [e2, e3]⟩
  · have e : tkP (2, (c : Int), n, (1, 0, ⟨#[]⟩), 8) r = (2, (c : Int), n, (1, 0, ⟨#[]⟩), 8) := by unfold tkP; rw [if_pos (by simp)]
    have es2 : smF (smP xs) (cvC c r).2.1 = smP xs := by unfold smF; rw [if_pos (by rw [h8]; simp)]
    rw [e]
    unfold SumJ
    rw [es, es2]
    exact .inr ⟨h8, n, rfl⟩
theorem sum_fold {c : Nat} : ∀ (L : List (List Vt)) (xs : List Int) (t : Ta), SumJ c xs t → (∀ r ∈ L, c < r.length ∧ (cvC c r).1 = 1) → SumJ c (xs ++ L.map fun r => (cvC c r).2.1) (L.foldl tkP t)
  | [], xs, t, h, _ => by simpa using h
  | r :: L, xs, t, h, hr => by
    have h1 := hr r (List.mem_cons_self ..)
    have := sum_fold L _ _ (sum_step h h1.1 h1.2) fun x hx => hr x (List.mem_cons_of_mem _ hx)
    rw [List.append_assoc] at this
    exact this
theorem fnd_none : ∀ (C : List It) (L : List (List Vt)), fndP (fun r => hoL C r []) L = (L, 0)
  | _, [] => rfl
  | C, r :: L => by
    rw [fndP, fnd_none C L]
    rfl
/-- The sum of a column. -/
def smC (c : Nat) (L : List (List Vt)) : Int × Int := smP (L.map fun r => (cvC c r).2.1)
theorem fold_sum {C : List It} {nm : ByteArray} {c : Nat} (hp : plP C ⟨#[]⟩ nm = ((c : Int), 0)) {L : List (List Vt)} (hr : ∀ r ∈ L, c < r.length ∧ (cvC c r).1 = 1) : foE C [(2, ⟨#[]⟩, nm)] (L, 0) = (smC c L).2 ∧ ((smC c L).2 = 0 → foR C [(2, ⟨#[]⟩, nm)] (L, 0) = [(1, (smC c L).1, ⟨#[]⟩)]) := by
  have h := sum_fold (c := c) L [] (2, (c : Int), 0, (1, 0, ⟨#[]⟩), 0) (.inl ⟨rfl, rfl⟩) hr
  rw [List.nil_append] at h
  have et : taP C (2, ⟨#[]⟩, nm) = (2, (c : Int), 0, (1, 0, ⟨#[]⟩), 0) := by unfold taP; rw [if_neg (by simp), if_pos (by simp), hp]
  unfold foE foR stT smC
  simp only [List.map_cons, List.map_nil, et]
  generalize L.foldl tkP (2, (c : Int), 0, (1, 0, ⟨#[]⟩), 0) = T at *
  rw [if_neg (by simp)]
  rcases h with ⟨h0, rfl⟩ | ⟨h8, n, rfl⟩
  · rw [h0]; exact ⟨rfl, fun _ => rfl⟩
  · rw [h8]; exact ⟨rfl, fun h => by cases h⟩
theorem fold_mm {C : List It} {nm : ByteArray} {c : Nat} (hp : plP C ⟨#[]⟩ nm = ((c : Int), 0)) {L : List (List Vt)} (hr : ∀ r ∈ L, c < r.length) (hL : L ≠ []) : ∃ A B : Vt, foE C [(3, ⟨#[]⟩, nm), (4, ⟨#[]⟩, nm)] (L, 0) = 0 ∧ foR C [(3, ⟨#[]⟩, nm), (4, ⟨#[]⟩, nm)] (L, 0) = [A, B] ∧
    A ∈ L.map (cvC c) ∧ B ∈ L.map (cvC c) ∧ (∀ v ∈ L.map (cvC c), ¬ cmpVt v A < 0) ∧ ∀ v ∈ L.map (cvC c), ¬ 0 < cmpVt v B := by
  have hA := bst_fold (ag := 3) (c := c) (lt := fun a b => cmpVt a b < 0) (by simp) (fun n m v => by unfold wiP; rw [if_neg (by simp)]; simp) (fun h1 h2 => cmpVt_tr h1 h2) (fun x => by rw [cmpVt_self]; simp) L [] (3, (c : Int), 0, (1, 0, ⟨#[]⟩), 0) ⟨_, rfl, fun h => absurd rfl h⟩ hr
  have hB := bst_fold (ag := 4) (c := c) (lt := fun a b => cmpVt b a < 0) (by simp) (fun n m v => by unfold wiP; rw [if_neg (by simp)]; simp) (fun h1 h2 => cmpVt_tr h2 h1) (fun x => by rw [cmpVt_self]; simp) L [] (4, (c : Int), 0, (1, 0, ⟨#[]⟩), 0) ⟨_, rfl, fun h => absurd rfl h⟩ hr
  rw [List.nil_append] at hA hB
  obtain ⟨A, hA1, hA2⟩ := hA
  obtain ⟨B, hB1, hB2⟩ := hB
  obtain ⟨a1, a2⟩ := hA2 hL
  obtain ⟨b1, b2⟩ := hB2 hL
  have e3 : taP C (3, ⟨#[]⟩, nm) = (3, (c : Int), 0, (1, 0, ⟨#[]⟩), 0) := by unfold taP; rw [if_neg (by simp), if_pos (by simp), hp]
  have e4 : taP C (4, ⟨#[]⟩, nm) = (4, (c : Int), 0, (1, 0, ⟨#[]⟩), 0) := by unfold taP; rw [if_neg (by simp), if_pos (by simp), hp]
  have hl : 0 < L.length := List.length_pos_iff.2 hL
  have t3 : toP (3, (c : Int), (L.length : Int), A, 0) = (A, 0) := by unfold toP; rw [if_neg (by simp), if_neg (by simp), if_neg (by simp; omega)]
  have t4 : toP (4, (c : Int), (L.length : Int), B, 0) = (B, 0) := by unfold toP; rw [if_neg (by simp), if_neg (by simp), if_neg (by simp; omega)]
  refine ⟨A, B, ?_, ?_, a1, b1, a2, fun v hv h => b2 v hv (by have := cmpVt_flip v B; omega)⟩
  · unfold foE stT
    simp only [List.map_cons, List.map_nil, e3, e4, hA1, hB1, t3, t4]
    rw [if_neg (by simp)]
    rfl
  · unfold foR stT
    simp only [List.map_cons, List.map_nil, e3, e4, hA1, hB1, t3, t4]
theorem fold_mm0 {C : List It} {nm : ByteArray} {c : Nat} (hp : plP C ⟨#[]⟩ nm = ((c : Int), 0)) : foE C [(3, ⟨#[]⟩, nm), (4, ⟨#[]⟩, nm)] ([], 0) = 23 := by
  have e3 : taP C (3, ⟨#[]⟩, nm) = (3, (c : Int), 0, (1, 0, ⟨#[]⟩), 0) := by unfold taP; rw [if_neg (by simp), if_pos (by simp), hp]
  unfold foE stT
  simp only [List.map_cons, List.map_nil, e3, List.foldl_nil]
  rw [if_neg (by simp)]
  rfl
theorem pl_v : plP (scP [tbT]) ⟨#[]⟩ ⟨#[118]⟩ = (((1 : Nat) : Int), 0) := by decide +kernel
theorem pl_n : plP (scP [tbT]) ⟨#[]⟩ ⟨#[110]⟩ = (((2 : Nat) : Int), 0) := by decide +kernel
theorem rwOK_len {r : List Vt} (h : RwOK tbT.cols r) : r.length = 3 := h.1

end Go.Proofs.YtnlaaejdianfjaaGreat
