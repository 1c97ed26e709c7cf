import Derived.Test.YtnlaaejdianfjaaGreatQwan
import Derived.Test.YtnlaaejdianfjaaGreatQwal
import Derived.Test.YtnlaaejdianfjaaGreatQwaa
import Derived.ProofKit
import Derived.OpenShut
import Derived.ShutString
import Derived.ChangeOld
import Derived.Below
import Derived.Deep.Strs
import Derived.ChangeMaps5
import Derived.Test.YtnlaaejdianfjaaGreatQwae
import Derived.Deep.Trees
import Derived.Test.YtnlaaejdianfjaaGreatQwak
import Derived.Test.YtnlaaejdianfjaaGreatQwaj
import Derived.Test.YtnlaaejdianfjaaGreatQwam
namespace Go.Proofs.YtnlaaejdianfjaaGreat
open Go.RowKit
set_option linter.unusedVariables false
set_option linter.unusedSimpArgs false

/-- A value of a kind, as the code makes them. -/
def VF (k : Int) (v : Vt) : Prop := v.1 = k ∧ (k = 1 → v.2.2 = ⟨#[]⟩) ∧ (k = 2 → v.2.1 = 0) ∧ (k = 3 → v = trV true ∨ v = trV false)
theorem VF.tr (b : Bool) : VF 3 (trV b) := ⟨rfl, fun h => absurd h (by decide), fun h => absurd h (by decide), fun _ => by cases b; exact .inr rfl; exact .inl rfl⟩
theorem VF.num (z : Int) : VF 1 (1, z, ⟨#[]⟩) := ⟨rfl, fun _ => rfl, fun h => absurd h (by decide), fun h => absurd h (by decide)⟩
def nz (r : Vt × Int) : Vt × Int := if r.2 ≠ 0 then (vZ, r.2) else r
theorem nz_ok {r : Vt × Int} (h : r.2 = 0) : nz r = r := by unfold nz; rw [if_neg (by simpa using h)]
theorem nz_er {r : Vt × Int} (h : r.2 ≠ 0) : nz r = (vZ, r.2) := by unfold nz; rw [if_pos h]
theorem erL_one (a : Int) : erL [a] = a := by
  unfold erL erL
  split
  · exact Eq.symm (by assumption)
  · rfl
theorem erL_two (a b : Int) : erL [a, b] = if a = 0 then b else a := by
  show (if a = 0 then erL [b] else a) = _
  rw [erL_one]
theorem kn_ok {v : Vt} {k : Int} (h : v.1 = k) : knP v k = (v.2.1, 0) := if_pos h
theorem numE_nz (z : Int) : nz ((1, nV z, ⟨#[]⟩), nE z) = numE z := by
  unfold nz numE
  by_cases h : nE z = 0
  · rw [if_neg (by simpa using h), if_neg (by simpa using h), h]
  · rw [if_pos h, if_pos h]
/-- What the code makes of what one part, or two parts, come to. -/
def evO (op : Int) (r0 : Vt × Int) : Vt × Int := if erL [r0.2] ≠ 0 then (vZ, erL [r0.2]) else madeP op [r0.1]
def evW (op : Int) (r0 r1 : Vt × Int) : Vt × Int := if erL [r0.2, r1.2] ≠ 0 then (vZ, erL [r0.2, r1.2]) else madeP op [r0.1, r1.1]
theorem ag_neg {r0 : Vt × Int} (hv : r0.2 = 0 → VF 1 r0.1) : nz (evO 3 r0) = rfA 3 (nz r0) (vZ, 0) ∧ ((evO 3 r0).2 = 0 → VF 1 (evO 3 r0).1) := by
  unfold evO
  rw [erL_one]
  by_cases h : r0.2 = 0
  · have h1 : madeP 3 [r0.1] = ((1, nV (-r0.1.2.1), ⟨#[]⟩), nE (-r0.1.2.1)) := by
      show recP 3 [r0.1] = _
      unfold recP
      have e1 : erL ([r0.1].map fun v => (knP v 1).2) = 0 := by rw [List.map_cons, List.map_nil, erL_one, kn_ok (hv h).1]
      rw [if_neg (by simpa using e1)]
      rfl
    rw [if_neg (by simpa using h), h1, numE_nz, nz_ok h]
    refine ⟨?_, fun _ => VF.num _⟩
    unfold rfA
    rw [if_neg (by simpa using h), if_pos rfl]
  · rw [if_pos h, nz_er (r := r0) h]
    refine ⟨?_, fun k => absurd k h⟩
    unfold rfA
    rw [if_pos h]
    exact nz_er h
theorem ag_not {r0 : Vt × Int} (hv : r0.2 = 0 → VF 3 r0.1) : nz (evO 4 r0) = rfA 4 (nz r0) (vZ, 0) ∧ ((evO 4 r0).2 = 0 → VF 3 (evO 4 r0).1) := by
  unfold evO
  rw [erL_one]
  by_cases h : r0.2 = 0
  · have h1 : madeP 4 [r0.1] = (trV (!decide (r0.1.2.1 = 1)), 0) := by
      show (trV (!decide ((knP r0.1 3).1 = 1)), (knP r0.1 3).2) = _
      rw [kn_ok (hv h).1]
    rw [if_neg (by simpa using h), h1, nz_ok rfl, nz_ok h]
    refine ⟨?_, fun _ => VF.tr _⟩
    unfold rfA
    rw [if_neg (by simpa using h), if_neg (by decide), if_pos rfl]
    rcases (hv h).2.2.2 rfl with e | e <;> rw [e] <;> rfl
  · rw [if_pos h, nz_er (r := r0) h]
    refine ⟨?_, fun k => absurd k h⟩
    unfold rfA
    rw [if_pos h]
    exact nz_er h
theorem rfA_er {op : Int} {r0 r1 : Vt × Int} (h : r0.2 ≠ 0) : rfA op r0 r1 = (vZ, r0.2) := by unfold rfA; rw [if_pos h]
theorem rfA_two {op : Int} {r0 r1 : Vt × Int} (h : r0.2 = 0) (h3 : op ≠ 3) (h4 : op ≠ 4) (h14 : op ≠ 14) (h15 : op ≠ 15) : rfA op r0 r1 = if r1.2 ≠ 0 then (vZ, r1.2) else rTwo op r0.1 r1.1 := by
  unfold rfA
  rw [if_neg (by simpa using h), if_neg h3, if_neg h4, if_neg (fun k => h14 k.1), if_neg (fun k => h15 k.1)]
theorem ag_two {op k kr : Int} {r0 r1 : Vt × Int} (h3 : op ≠ 3) (h4 : op ≠ 4) (h14 : op ≠ 14) (h15 : op ≠ 15) (hm : VF k r0.1 → VF k r1.1 → nz (madeP op [r0.1, r1.1]) = rTwo op r0.1 r1.1 ∧ ((madeP op [r0.1, r1.1]).2 = 0 → VF kr (madeP op [r0.1, r1.1]).1)) (hv0 : r0.2 = 0 → VF k r0.1) (hv1 : r1.2 = 0 → VF k r1.1) : nz (evW op r0 r1) = rfA op (nz r0) (nz r1) ∧ ((evW op r0 r1).2 = 0 → VF kr (evW op r0 r1).1) := by
  unfold evW
  rw [erL_two]
  by_cases h : r0.2 = 0
  · rw [if_pos h, nz_ok h, rfA_two h h3 h4 h14 h15]
    by_cases g : r1.2 = 0
    · rw [if_neg (by simpa using g), nz_ok g, if_neg (by simpa using g)]
      exact hm (hv0 h) (hv1 g)
    · rw [if_pos g, nz_er (r := r1) g, if_pos g]
      exact ⟨nz_er g, fun k => absurd k g⟩
  · rw [if_neg h, if_pos h, nz_er (r := r0) h, rfA_er (r0 := (vZ, r0.2)) h]
    exact ⟨nz_er h, fun k => absurd k h⟩
theorem ag_num {op : Int} (hop : op = 5 ∨ op = 6 ∨ op = 7) {a b : Vt} (ha : VF 1 a) (hb : VF 1 b) : nz (madeP op [a, b]) = rTwo op a b ∧ ((madeP op [a, b]).2 = 0 → VF 1 (madeP op [a, b]).1) := by
  have e1 : erL ([a, b].map fun v => (knP v 1).2) = 0 := by
    rw [List.map_cons, List.map_cons, List.map_nil, erL_two, kn_ok ha.1, kn_ok hb.1]
    rfl
  have h1 : madeP op [a, b] = ((1, nV (numR op a.2.1 b.2.1), ⟨#[]⟩), nE (numR op a.2.1 b.2.1)) := by
    have hn : isNumOp op = true := by rcases hop with rfl | rfl | rfl <;> rfl
    unfold madeP
    rw [if_pos hn]
    unfold recP
    rw [if_neg (by simpa using e1)]
    rcases hop with rfl | rfl | rfl <;> rfl
  rw [h1, numE_nz]
  refine ⟨?_, fun _ => VF.num _⟩
  unfold rTwo
  rw [if_neg (by omega), if_neg (by omega)]
theorem cmp_ref {k : Int} (hk : k = 1 ∨ k = 2) {a b : Vt} (ha : VF k a) (hb : VF k b) : cmpVt a b = refVt a b := by
  obtain ⟨a0, a1, a2⟩ := a
  obtain ⟨b0, b1, b2⟩ := b
  obtain ⟨ha0, ha1, ha2, -⟩ := ha
  obtain ⟨hb0, hb1, hb2, -⟩ := hb
  dsimp only at *
  unfold cmpVt refVt cmpV refC
  dsimp only
  rw [ha0, hb0, cmpI_eq, if_neg (by omega), if_neg (by omega)]
  rcases hk with rfl | rfl
  · rw [ha1 rfl, hb1 rfl, lexI_self, if_pos rfl]
    unfold orI
    rw [if_pos rfl]
    split
    · exact Eq.symm (by assumption)
    · rfl
  · rw [ha2 rfl, hb2 rfl, cmpI_eq, if_neg (by decide)]
    rfl
theorem ag_cmp {op k : Int} (hop : 8 ≤ op ∧ op ≤ 13) (hk : k = 1 ∨ k = 2) {a b : Vt} (ha : VF k a) (hb : VF k b) : nz (madeP op [a, b]) = rTwo op a b ∧ ((madeP op [a, b]).2 = 0 → VF 3 (madeP op [a, b]).1) := by
  have hn : ¬ isNumOp op = true := by rw [numOp_is]; omega
  have h1 : madeP op [a, b] = (trV (standsP op (cmpVt a b)), 0) := by
    unfold madeP
    rw [if_neg hn, if_neg (by omega)]
    show cmpdP op a b = _
    unfold cmpdP
    rw [if_neg (by rw [ha.1, hb.1]; omega)]
  rw [h1, nz_ok rfl]
  refine ⟨?_, fun _ => VF.tr _⟩
  unfold rTwo
  rw [if_neg (by omega), if_pos hop.1, cmp_ref hk ha hb]
theorem bo_ok {r : Vt × Int} (h : r.2 = 0) (hv : VF 3 r.1) : boP r = (r.1.2.1, 0) := by unfold boP; rw [if_neg (by simpa using h), kn_ok hv.1]
theorem bo_er {r : Vt × Int} (h : r.2 ≠ 0) : boP r = (0, r.2) := by unfold boP; rw [if_pos h]
theorem ag_up {op z : Int} (hop : (op = 14 ∧ z = 0) ∨ (op = 15 ∧ z = 1)) {r0 r1 : Vt × Int} (hv0 : r0.2 = 0 → VF 3 r0.1) (hv1 : r1.2 = 0 → VF 3 r1.1) : nz (upP z r0 r1) = rfA op (nz r0) (nz r1) ∧ ((upP z r0 r1).2 = 0 → VF 3 (upP z r0 r1).1) := by
  unfold upP
  by_cases h : r0.2 = 0
  · rw [bo_ok h (hv0 h), if_neg (by simp), nz_ok h]
    dsimp only
    have hr : rfA op r0 (nz r1) = if op = 14 ∧ r0.1.2.1 = 0 then (trV false, 0) else if op = 15 ∧ r0.1.2.1 = 1 then (trV true, 0) else if (nz r1).2 ≠ 0 then (vZ, (nz r1).2) else rTwo op r0.1 (nz r1).1 := by
      unfold rfA
      rw [if_neg (by simpa using h), if_neg (by omega), if_neg (by omega)]
    by_cases hz : r0.1.2.1 = z
    · have hr2 : rfA op r0 (nz r1) = (trV (decide (z = 1)), 0) := by
        rw [hr]
        rcases hop with ⟨rfl, rfl⟩ | ⟨rfl, rfl⟩
        · rw [if_pos ⟨rfl, hz⟩]; rfl
        · rw [if_neg (fun k => absurd k.1 (by decide)), if_pos ⟨rfl, hz⟩]; rfl
      rw [hr2, if_pos hz]
      exact ⟨nz_ok rfl, fun _ => VF.tr _⟩
    · have hr2 : rfA op r0 (nz r1) = if (nz r1).2 ≠ 0 then (vZ, (nz r1).2) else rTwo op r0.1 (nz r1).1 := by
        rw [hr]
        rcases hop with ⟨rfl, rfl⟩ | ⟨rfl, rfl⟩
        · rw [if_neg (fun k => hz k.2), if_neg (fun k => absurd k.1 (by decide))]
        · rw [if_neg (fun k => absurd k.1 (by decide)), if_neg (fun k => hz k.2)]
      rw [hr2, if_neg hz]
      by_cases g : r1.2 = 0
      · rw [bo_ok g (hv1 g), if_neg (by simp), nz_ok g, if_neg (by simpa using g), nz_ok rfl]
        refine ⟨?_, fun _ => VF.tr _⟩
        unfold rTwo
        rw [if_pos (by omega)]
      · rw [bo_er g, if_pos (show (0, r1.2).2 ≠ 0 from g), nz_er (r := r1) g, if_pos (show ((vZ, r1.2) : Vt × Int).2 ≠ 0 from g)]
        exact ⟨nz_er g, fun k => absurd k g⟩
  · rw [bo_er h, if_pos h, nz_er (r := r0) h, rfA_er (r0 := (vZ, r0.2)) h]
    exact ⟨nz_er h, fun k => absurd k h⟩
theorem it_same (tb nm : ByteArray) (c : It) : itIs tb nm c = itV tb nm c := by
  unfold itIs itV eqS
  rw [show decide (tb = c.2.1) = decide (c.2.1 = tb) from by rw [Bool.eq_iff_iff]; simp [eq_comm]]
theorem col_cases (C : List It) (tb nm : ByteArray) : (∃ q : Nat, ∃ hq : q < C.length, fidx (itV tb nm) C = q ∧ (C.drop (q + 1)).any (itV tb nm) = false ∧ ∀ K : List Int, (h : K.length = C.length) → clmK (pairP C K) tb nm = (K[q], 0)) ∨ (¬ (0 ≤ fidx (itV tb nm) C ∧ (C.drop ((fidx (itV tb nm) C).toNat + 1)).any (itV tb nm) = false) ∧ ∀ K : List Int, K.length = C.length → clmK (pairP C K) tb nm = (0, 10)) := by
  rcases fidx_vals (itV tb nm) C with e | ⟨q, e, hq⟩
  · refine .inr ⟨fun h => by omega, fun K hK => ?_⟩
    have ha : C.any (itV tb nm) = false := by rw [← fidxV_any, e]; rfl
    have hf : (pairP C K).filter (clmIs tb nm) = [] := filter_none fun j hj => by
      have hj' : j < C.length := by rw [pairP_len] at hj; omega
      rw [pairP_is hj' (by omega) hj, it_same]
      rw [List.any_eq_false] at ha
      simpa using ha C[j] (List.getElem_mem hj')
    unfold clmK
    rw [hf]
  · obtain ⟨hq', hp⟩ := fidx_at e
    have hbef : ∀ j (hj : j < C.length), j < q → itV tb nm C[j] = false := by
      intro j hj hjq
      unfold fidx at e
      split at e
      · have hfi : C.findIdx (itV tb nm) = q := by omega
        have := List.not_of_lt_findIdx (p := itV tb nm) (xs := C) (i := j) (by omega)
        simpa using this
      · omega
    by_cases ha : (C.drop (q + 1)).any (itV tb nm) = false
    · refine .inl ⟨q, hq, e, ha, fun K hK => ?_⟩
      have hlp : (pairP C K).length = C.length := by rw [pairP_len]; omega
      have hf : (pairP C K).filter (clmIs tb nm) = [(pairP C K)[q]] := filter_only (by omega) (by rw [pairP_is hq (by omega), it_same]; exact hp) fun j hj hjq => by
        have hj' : j < C.length := by omega
        rw [pairP_is hj' (by omega), it_same]
        rcases Nat.lt_or_gt_of_ne hjq with h | h
        · exact hbef j hj' h
        · rw [List.any_eq_false] at ha
          have := ha C[j] (by rw [List.mem_iff_getElem]; exact ⟨j - (q + 1), by rw [List.length_drop]; omega, by rw [List.getElem_drop]; congr 1; omega⟩)
          simpa using this
      unfold clmK
      rw [hf]
      show ((pairP C K)[q].2.2, 0) = _
      have e2 : (pairP C K)[q] = (C[q].2.1, C[q].2.2, K[q]) := by simp only [pairP, List.getElem_map, List.getElem_zip]
      rw [e2]
    · refine .inr ⟨fun h => ha (by have := h.2; rwa [e, Int.toNat_natCast] at this), fun K hK => ?_⟩
      rw [Bool.not_eq_false, List.any_eq_true] at ha
      obtain ⟨c, hc, hpc⟩ := ha
      obtain ⟨i, hi, rfl⟩ := List.mem_iff_getElem.1 hc
      rw [List.length_drop] at hi
      rw [List.getElem_drop] at hpc
      have hlp : (pairP C K).length = C.length := by rw [pairP_len]; omega
      have h2 := filter_two (p := clmIs tb nm) (l := pairP C K) (q := q) (r := q + 1 + i) (by omega) (by omega) (by omega) (by rw [pairP_is hq (by omega), it_same]; exact hp) (by rw [pairP_is (by omega) (by omega), it_same]; exact hpc)
      unfold clmK
      match hm : (pairP C K).filter (clmIs tb nm), h2 with
      | a :: b :: r, _ => rfl
theorem ag_col {C : List It} {V : List Vt} (hCV : C.length = V.length) (tb nm : ByteArray) : colV C V tb nm = colR C V tb nm ∧ ∀ K : List Int, K.length = C.length → (∀ i (h1 : i < K.length) (h2 : i < V.length), VF K[i] V[i]) → ∀ k, clmK (pairP C K) tb nm = (k, 0) → (colV C V tb nm).2 = 0 ∧ VF k (colV C V tb nm).1 := by
  rcases col_cases C tb nm with ⟨q, hq, e, ha, hK⟩ | ⟨hn, hK⟩
  · have e1 : colV C V tb nm = (V[q]'(by omega), 0) := by
      unfold colV
      rw [e, if_pos ⟨by omega, by rw [Int.toNat_natCast]; exact ha⟩, Int.toNat_natCast, List.getElem?_eq_getElem (by omega)]
      rfl
    refine ⟨?_, fun K hl hv k hk => ?_⟩
    · rw [e1]
      unfold colR
      rw [hK (idxs V.length) (by rw [idxs_len]; omega), if_pos rfl]
      have e2 : (idxs V.length)[q]'(by rw [idxs_len]; omega) = (q : Int) := by simp [idxs]
      rw [e2]
      show _ = ((V[((q : Int)).toNat]?).getD vZ, 0)
      rw [Int.toNat_natCast, List.getElem?_eq_getElem (by omega)]
      rfl
    · rw [hK K hl] at hk
      injection hk with hk1 _
      rw [e1, ← hk1]
      exact ⟨rfl, hv q (by omega) (by omega)⟩
  · have e1 : colV C V tb nm = (vZ, 10) := by unfold colV; rw [if_neg hn]
    refine ⟨?_, fun K hl hv k hk => ?_⟩
    · rw [e1]
      unfold colR
      rw [hK (idxs V.length) (by rw [idxs_len]; omega), if_neg (by decide)]
    · rw [hK K hl] at hk
      injection hk with _ hk2
      cases hk2

end Go.Proofs.YtnlaaejdianfjaaGreat
namespace Go.Proofs.YtnlaaejdianfjaaGreat
open Go.RowKit
set_option linter.unusedVariables false
set_option linter.unusedSimpArgs false

theorem evT_one {C : List It} {V : List Vt} {x u : Pg × Tg} (hop : x.1.1 = 3 ∨ x.1.1 = 4) (hl : toL x.2 = [u]) : evT C V x = evO x.1.1 (evT C V u) := by
  have hp : partsP x.1.1 = 1 := by rcases hop with h | h <;> rw [h] <;> rfl
  unfold evT ev1
  rw [evs_map, hl, if_neg (by rw [hp]; intro h; exact h rfl), if_neg (by omega), if_neg (by omega), if_neg (by omega), if_neg (by omega)]
  rfl
theorem evT_two {C : List It} {V : List Vt} {x u v : Pg × Tg} (hop : 5 ≤ x.1.1 ∧ x.1.1 ≤ 13) (hl : toL x.2 = [u, v]) : evT C V x = evW x.1.1 (evT C V u) (evT C V v) := by
  have hp : partsP x.1.1 = 2 := by unfold partsP; rw [if_neg (by omega), if_neg (by omega), if_neg (by omega), if_neg (by omega), if_pos (by omega)]
  unfold evT ev1
  rw [evs_map, hl, if_neg (by rw [hp]; intro h; exact h rfl), if_neg (by omega), if_neg (by omega), if_neg (by omega), if_neg (by omega)]
  rfl
theorem takes1 {f : List Int} {a : Int} (h : takesP f [a] = true) : f.contains a = true := by
  unfold takesP at h
  rw [Bool.and_eq_true] at h
  simpa using h.2
theorem takes2 {f : List Int} {a b : Int} (h : takesP f [a, b] = true) : b = a ∧ f.contains a = true := by
  unfold takesP alikeP at h
  rw [Bool.and_eq_true] at h
  simp only [List.all_cons, List.all_nil, List.headD_cons, Bool.and_true, Bool.and_eq_true, beq_iff_eq] at h
  exact ⟨h.1.2, h.2.1⟩
theorem wayA_in {op : Int} {v : Int × List Int × Int} (h : wayA op = some v) : 1 ≤ op ∧ op ≤ 15 := by
  by_cases hh : 1 ≤ op ∧ op ≤ 15
  · exact hh
  · exfalso
    unfold wayA at h
    rw [if_neg (by omega), if_neg (by omega), if_neg (by omega), if_neg (by omega), if_neg (by omega), if_neg (by omega), if_neg (by omega), if_neg (by omega), if_neg (by omega), if_neg (by omega), if_neg (by omega), if_neg (by omega), if_neg (by omega), if_neg (by omega), if_neg (by omega)] at h
    cases h
/-- What a kind says of an expression's parts. -/
theorem kd_parts {S : List Cl3} {x : Pg × Tg} {k : Int} (h : kdT S x = (k, 0)) : ∃ v, wayA x.1.1 = some v ∧ ((toL x.2).length : Int) = v.1 ∧ (x.1.1 ≠ 1 → x.1.1 ≠ 2 → erL ((toL x.2).map fun x => (kdT S x).2) = 0 ∧ takesP v.2.1 ((toL x.2).map fun x => (kdT S x).1) = true ∧ k = v.2.2) := by
  cases hw : wayA x.1.1 with
  | none => rw [kdT_none hw] at h; injection h with _ h2; cases h2
  | some v =>
    by_cases hn : ((toL x.2).length : Int) = v.1
    · refine ⟨v, rfl, hn, fun h1 h2 => ?_⟩
      by_cases he : erL ((toL x.2).map fun x => (kdT S x).2) = 0
      · rw [kdT_ok hw hn h1 h2 he] at h
        split at h
        · rename_i ht
          injection h with h3 _
          exact ⟨he, ht, h3.symm⟩
        · injection h with _ h4; cases h4
      · rw [kdT_err hw hn h1 h2 he] at h
        injection h with _ h4
        exact absurd h4 he
    · rw [kdT_len hw hn] at h; injection h with _ h2; cases h2
def lfF : Tg → Prop
  | .nil => True
  | .node _ _ p l r => ((p.1 = 1 → VF p.2.1 (p.2.1, p.2.2.1, p.2.2.2.1)) ∧ lfF l) ∧ lfF r
def lfT (x : Pg × Tg) : Prop := (x.1.1 = 1 → VF x.1.2.1 (x.1.2.1, x.1.2.2.1, x.1.2.2.2.1)) ∧ lfF x.2
def AgC (C : List It) (K : List Int) (V : List Vt) (x : Pg × Tg) : Prop := ∀ k, kdT (pairP C K) x = (k, 0) → nz (evT C V x) = rfT C V x ∧ ((evT C V x).2 = 0 → VF k (evT C V x).1)
theorem ag_step {C : List It} {K : List Int} {V : List Vt} (hCV : C.length = V.length) (hCK : K.length = C.length) (hKV : ∀ i (h1 : i < K.length) (h2 : i < V.length), VF K[i] V[i]) (x : Pg × Tg) (hl : x.1.1 = 1 → VF x.1.2.1 (x.1.2.1, x.1.2.2.1, x.1.2.2.2.1)) (ih : ∀ y ∈ toL x.2, AgC C K V y) : AgC C K V x := by
  intro k hk
  obtain ⟨v, hw, hn, hp⟩ := kd_parts hk
  have hop := wayA_in hw
  by_cases h1 : x.1.1 = 1
  · have hv : v.1 = 0 := by rw [h1] at hw; injection hw with hw; rw [← hw]
    have hpp : partsP x.1.1 = 0 := by rw [h1]; rfl
    rw [kdT_lit hw hn h1] at hk
    injection hk with hk1 _
    rw [evT_lit (by rw [hn, hv, hpp]) h1, rfT_lit h1, ← hk1]
    exact ⟨nz_ok rfl, fun _ => hl h1⟩
  by_cases h2 : x.1.1 = 2
  · have hv : v.1 = 0 := by rw [h2] at hw; injection hw with hw; rw [← hw]
    have hpp : partsP x.1.1 = 0 := by rw [h2]; rfl
    rw [kdT_col hw hn h1 h2] at hk
    obtain ⟨hc1, hc2⟩ := ag_col hCV x.1.2.2.2.2.1 x.1.2.2.2.2.2
    obtain ⟨e0, hvf⟩ := hc2 K hCK hKV k hk
    rw [evT_col (by rw [hn, hv, hpp]) h2, rfT_col h2]
    exact ⟨by rw [nz_ok e0, hc1], fun _ => hvf⟩
  obtain ⟨he, ht, hkv⟩ := hp h1 h2
  have sub : ∀ y ∈ toL x.2, ∀ ky, kdT (pairP C K) y = (ky, 0) → rfT C V y = nz (evT C V y) ∧ ((evT C V y).2 = 0 → VF ky (evT C V y).1) := fun y hy ky hyk => ⟨((ih y hy) ky hyk).1.symm, ((ih y hy) ky hyk).2⟩
  by_cases h34 : x.1.1 = 3 ∨ x.1.1 = 4
  · have hv1 : v.1 = 1 := by rcases h34 with h | h <;> rw [h] at hw <;> injection hw with hw <;> rw [← hw]
    obtain ⟨u, hu⟩ : ∃ u, toL x.2 = [u] := by
      have : (toL x.2).length = 1 := by omega
      match toL x.2, this with
      | [u], _ => exact ⟨u, rfl⟩
    rw [hu, List.map_cons, List.map_nil] at he ht
    rw [erL_one] at he
    have hc := takes1 ht
    obtain ⟨hr, hvf⟩ := sub u (by rw [hu]; simp) (kdT (pairP C K) u).1 (Prod.ext rfl he)
    rw [evT_one h34 hu, rfT_one h1 h2 hu, hr]
    rcases h34 with h | h
    · rw [h] at hw ⊢
      injection hw with hw
      subst hw
      rw [show (kdT (pairP C K) u).1 = 1 from by simpa using hc] at hvf
      rw [hkv]
      exact ag_neg hvf
    · rw [h] at hw ⊢
      injection hw with hw
      subst hw
      rw [show (kdT (pairP C K) u).1 = 3 from by simpa using hc] at hvf
      rw [hkv]
      exact ag_not hvf
  have hv2 : v.1 = 2 := by
    rcases (show x.1.1 = 5 ∨ x.1.1 = 6 ∨ x.1.1 = 7 ∨ x.1.1 = 8 ∨ x.1.1 = 9 ∨ x.1.1 = 10 ∨ x.1.1 = 11 ∨ x.1.1 = 12 ∨ x.1.1 = 13 ∨ x.1.1 = 14 ∨ x.1.1 = 15 by omega) with h | h | h | h | h | h | h | h | h | h | h <;> rw [h] at hw <;> injection hw with hw <;> rw [← hw]
  obtain ⟨u, w, hu⟩ : ∃ u w, toL x.2 = [u, w] := by
    have : (toL x.2).length = 2 := by omega
    match toL x.2, this with
    | [u, w], _ => exact ⟨u, w, rfl⟩
  rw [hu, List.map_cons, List.map_cons, List.map_nil] at he ht
  rw [erL_two] at he
  have he0 : (kdT (pairP C K) u).2 = 0 := by
    by_cases h : (kdT (pairP C K) u).2 = 0
    · exact h
    · rw [if_neg h] at he; exact he
  rw [if_pos he0] at he
  obtain ⟨hsame, hc⟩ := takes2 ht
  obtain ⟨hr0, hvf0⟩ := sub u (by rw [hu]; simp) (kdT (pairP C K) u).1 (Prod.ext rfl he0)
  obtain ⟨hr1, hvf1⟩ := sub w (by rw [hu]; simp) (kdT (pairP C K) u).1 (Prod.ext hsame he)
  rw [rfT_two h1 h2 hu, hr0, hr1]
  generalize (kdT (pairP C K) u).1 = ku at *
  by_cases h14 : x.1.1 = 14
  · rw [evT_and hu h14]
    rw [h14] at hw ⊢
    injection hw with hw
    subst hw
    obtain rfl : ku = 3 := by simpa using hc
    rw [hkv]
    exact ag_up (.inl ⟨rfl, rfl⟩) hvf0 hvf1
  by_cases h15 : x.1.1 = 15
  · rw [evT_or hu h15]
    rw [h15] at hw ⊢
    injection hw with hw
    subst hw
    obtain rfl : ku = 3 := by simpa using hc
    rw [hkv]
    exact ag_up (.inr ⟨rfl, rfl⟩) hvf0 hvf1
  rw [evT_two (by omega) hu]
  by_cases hnum : x.1.1 = 5 ∨ x.1.1 = 6 ∨ x.1.1 = 7
  · have hw1 : v.2 = ([1], 1) := by rcases hnum with h | h | h <;> rw [h] at hw <;> injection hw with hw <;> rw [← hw]
    rw [hw1] at hc hkv
    obtain rfl : ku = 1 := by simpa using hc
    rw [hkv]
    exact ag_two (by omega) (by omega) h14 h15 (fun ha hb => ag_num hnum ha hb) hvf0 hvf1
  · have hw1 : v.2 = ([1, 2], 3) := by
      rcases (show x.1.1 = 8 ∨ x.1.1 = 9 ∨ x.1.1 = 10 ∨ x.1.1 = 11 ∨ x.1.1 = 12 ∨ x.1.1 = 13 by omega) with h | h | h | h | h | h <;> rw [h] at hw <;> injection hw with hw <;> rw [← hw]
    rw [hw1] at hc hkv
    have hku : ku = 1 ∨ ku = 2 := by simpa using hc
    rw [hkv]
    exact ag_two (by omega) (by omega) h14 h15 (fun ha hb => ag_cmp (by omega) hku ha hb) hvf0 hvf1
theorem ag_all {C : List It} {K : List Int} {V : List Vt} (hCV : C.length = V.length) (hCK : K.length = C.length) (hKV : ∀ i (h1 : i < K.length) (h2 : i < V.length), VF K[i] V[i]) : ∀ f : Tg, lfF f → ∀ x ∈ toL f, AgC C K V x := by
  intro f
  induction f with
  | nil => intro _ x hx; simp [toL] at hx
  | node a b p l r ihl ihr =>
    rintro ⟨⟨h1, h2⟩, h3⟩ x hx
    rw [toL, List.mem_cons] at hx
    rcases hx with rfl | hx
    · exact ag_step hCV hCK hKV (p, l) h1 (ihl h2)
    · exact ihr h3 x hx
/-- What fits its columns comes to what the document says. -/
theorem ag_any {C : List It} {K : List Int} {V : List Vt} (hCV : C.length = V.length) (hCK : K.length = C.length) (hKV : ∀ i (h1 : i < K.length) (h2 : i < V.length), VF K[i] V[i]) (x : Pg × Tg) (hl : lfT x) : AgC C K V x := ag_step hCV hCK hKV x hl.1 (ag_all hCV hCK hKV x.2 hl.2)
end Go.Proofs.YtnlaaejdianfjaaGreat
namespace Go.Proofs.YtnlaaejdianfjaaGreat
open Go.RowKit
set_option linter.unusedVariables false
set_option linter.unusedSimpArgs false

theorem Ce.list {w : World} {b o : Nat} {op : Int} {p : Pay} {sl : Value} (h : Ce w b o op p sl) : ∀ j (hj : j < (exC op p sl).length), w.cell? ⟨b, o + j, none⟩ = some (exC op p sl)[j] := by
  obtain ⟨c0, c1, c2, c3, c4, c5, c6⟩ := h
  intro j hj
  have hj' : j < 7 := hj
  match j, hj' with
  | 0, _ => exact c0
  | 1, _ => exact c1
  | 2, _ => exact c2
  | 3, _ => exact c3
  | 4, _ => exact c4
  | 5, _ => exact c5
  | 6, _ => exact c6
theorem row1_g {w : World} {b : Nat} {x : Pg × Tg} {ea : Option Addr} {en ec : Nat} (h : Ce w b 0 x.1.1 x.1.2 (.slice ea en ec)) (hs : SlF (fun _ => True) w ea en ec x.2) : RowIs eG (fun _ => True) w (.slice (some ⟨b, 0, none⟩) 1 1) [x] :=
  ⟨_, 1, 1, rfl, rfl, Nat.le_refl _, by omega, fun _ => ⟨b, 0, rfl, trivial, fun i hi => by
    have hi' : i < 1 := hi
    match i, hi' with
    | 0, _ => exact ⟨exC x.1.1 x.1.2 (.slice ea en ec), ⟨ea, en, ec, rfl, hs⟩, rfl, fun j hj => h.list j hj⟩⟩⟩
theorem slF2 {w : World} {b : Nat} {p q : Pg} {l r : Tg} {ea : Option Addr} {en ec : Nat} {fa : Option Addr} {fn fc : Nat} (h : Ce w b 0 p.1 p.2 (.slice ea en ec)) (hs : SlF (fun _ => True) w ea en ec l) (h' : Ce w b 7 q.1 q.2 (.slice fa fn fc)) (hs' : SlF (fun _ => True) w fa fn fc r) : SlF (fun _ => True) w (some ⟨b, 0, none⟩) 2 2 (.node 0 0 p l (.node 0 0 q r .nil)) :=
  ⟨rfl, Nat.le_refl _, by omega, fun _ => ⟨b, 0, rfl, trivial, ⟨ea, en, ec, h, hs⟩, ⟨fa, fn, fc, by simpa using h', hs'⟩, trivial⟩⟩
abbrev nP : Pay := (0, 0, ⟨#[]⟩, ⟨#[]⟩, ⟨#[]⟩)
abbrev litP (k i : Int) : Pg := (1, k, i, ⟨#[]⟩, ⟨#[]⟩, ⟨#[]⟩)
abbrev xEq : Pg × Tg := ((8, nP), .node 0 0 (litP 1 1) .nil (.node 0 0 (litP 1 1) .nil .nil))
abbrev xNot : Pg × Tg := ((4, nP), .node 0 0 (litP 1 1) .nil .nil)
abbrev qSel : Sq := ⟨6, ⟨#[113]⟩, ⟨#[]⟩, [], [], ⟨#[]⟩, [], [], []⟩
abbrev sSel : Sv := ⟨6, ⟨#[113]⟩, ⟨#[]⟩, (none, 0, 0), (none, 0, 0), (none, 0, 0), (none, 0, 0), ⟨#[]⟩, (none, 0, 0), (none, 0, 0), (none, 0, 0), false, (none, 0, 0)⟩
end Go.Proofs.YtnlaaejdianfjaaGreat
namespace Go.Proofs.YtnlaaejdianfjaaGreat
open Go.RowKit
set_option linter.unusedVariables false
set_option linter.unusedSimpArgs false

/-- Two literals, one beside the other, and a way. -/
abbrev litV (v : Vt) : Pg := (1, v.1, v.2.1, v.2.2, ⟨#[]⟩, ⟨#[]⟩)
abbrev xTwo (op : Int) (a b : Vt) : Pg × Tg := ((op, nP), .node 0 0 (litV a) .nil (.node 0 0 (litV b) .nil .nil))
end Go.Proofs.YtnlaaejdianfjaaGreat
namespace Go.Proofs.YtnlaaejdianfjaaGreat
open Go.RowKit
set_option linter.unusedVariables false
set_option linter.unusedSimpArgs false

end Go.Proofs.YtnlaaejdianfjaaGreat
namespace Go.Proofs.YtnlaaejdianfjaaGreat
open Go.ChangeShapes Go.WideShapes Go.ChangeAt Go.RowKit
set_option linter.unusedVariables false

theorem own : ownKnob Tryz.prog.godebug = none := by kernel_rfl
theorem laidOut : laidOutB Tryz.prog = true := by kernel_rfl

/-- A slice of whole numbers that came in: nil, or a row of cells with its spare room. -/
def IsRow (k : IntKind) (w : World) (a : Option Addr) (len cap : Nat) (zs : List Int) : Prop :=
  (a = none ∧ len = 0 ∧ cap = 0 ∧ zs = []) ∨
  ∃ x, a = some x ∧ len ≤ cap ∧ cap ≤ maxLen ∧ zs.length = cap ∧ (∀ i, i < zs.length → w.cell? (x.add i) = some (.int k (zs.getD i 0))) ∧ ∀ n ∈ zs, (Lit.int k n).wf = true

theorem Rd.of_row {k : IntKind} {w : World} {a : Option Addr} {len cap : Nat} {zs : List Int} (h : IsRow k w a len cap zs) : Rd k w a len cap (zs.take len) := by
  rcases h with ⟨rfl, rfl, rfl, rfl⟩ | ⟨x, rfl, hl, hm, hz, hc, hw⟩
  · exact Rd.nil k w
  · refine ⟨by simp; omega, hl, hm, fun e => by simp at e, fun hp => ?_⟩
    obtain ⟨b, off, spot⟩ := x
    have h0 := hc 0 (by omega)
    have hspot : spot = none := by simpa [Addr.add] using World.cell?_spot h0
    subst hspot
    refine ⟨b, off, rfl, fun i hi => ?_⟩
    have hi' := hc i (by omega)
    rw [show (⟨b, off, none⟩ : Addr).add i = ⟨b, off + i, none⟩ from by simp [Addr.add]] at hi'
    rw [hi', nth, List.getElem?_take_of_lt hi, List.getD]

/-- Its numbers fit their kind. -/
theorem row_wf {k : IntKind} {w : World} {a : Option Addr} {len cap : Nat} {zs : List Int} (h : IsRow k w a len cap zs) : ∀ n ∈ zs.take len, (Lit.int k n).wf = true := by
  rcases h with ⟨rfl, rfl, rfl, rfl⟩ | ⟨x, rfl, hl, hm, hz, hc, hw⟩
  · intro n hn; simp at hn
  · exact fun n hn => hw n (List.mem_of_mem_take hn)

theorem u8_of_row {w : World} {a : Option Addr} {len cap : Nat} {zs : List Int} (h : IsRow .u8 w a len cap zs) : ∀ x ∈ zs.take len, 0 ≤ x ∧ x ≤ 255 :=
  fun x hx => bounds_u8 (row_wf h x hx)

end Go.Proofs.YtnlaaejdianfjaaGreat
namespace Go.Proofs.YtnlaaejdianfjaaGreat
open Go.ChangeShapes Go.WideShapes Go.ChangeAt Go.RowKit
set_option linter.unusedVariables false
set_option linter.unusedSimpArgs false

end Go.Proofs.YtnlaaejdianfjaaGreat
namespace Go.Proofs.YtnlaaejdianfjaaGreat
open Go.RowKit
set_option linter.unusedVariables false
set_option linter.unusedSimpArgs false

abbrev C0 : Cl2 := [((0, ⟨#[116]⟩, ⟨#[107]⟩), 1), ((0, ⟨#[116]⟩, ⟨#[118]⟩), 2), ((0, ⟨#[116]⟩, ⟨#[110]⟩), 1)]
abbrev S0 : List Cl3 := pairP (C0.map Prod.fst) (C0.map Prod.snd)
theorem leaf_kd {k : Int} {t : Tr} (h : LeafOK C0 k t) : kdT S0 (gP t) = (k, 0) ∧ noT t = false := by
  rcases h with ⟨tb, nm, rfl, x, hx, hk, rfl, hx2⟩ | ⟨i, s, rfl, -⟩
  · refine ⟨?_, rfl⟩
    subst hk
    simp only [List.mem_cons, List.not_mem_nil, or_false] at hx
    rcases hx with rfl | rfl | rfl <;> rcases hx2 with rfl | ⟨rfl, -⟩ <;> decide +kernel
  · exact ⟨rfl, rfl⟩
theorem kd_one {S : List Cl3} {op : Nat} {l : Tr} (hl : noT l = false) : kdT S (gP (tOne op l)) = kd1 S ((op : Int), nilP) [kdT S (gP l)] := by
  show kd1 S ((op : Int), nilP) (kds S (gT l (gT .nil .nil))) = _
  rw [kds_map, gT_cons hl]; rfl
theorem kd_two {S : List Cl3} {op : Nat} {l r : Tr} (hl : noT l = false) (hr : noT r = false) : kdT S (gP (tTwo op l r)) = kd1 S ((op : Int), nilP) [kdT S (gP l), kdT S (gP r)] := by
  show kd1 S ((op : Int), nilP) (kds S (gT l (gT r .nil))) = _
  rw [kds_map, gT_cons hl, gT_cons hr]; rfl
theorem pl_kd : ∀ (n : Nat) {k : Int} {t : Tr}, Pl C0 n k t → kdT S0 (gP t) = (k, 0) ∧ noT t = false
  | 0, k, t, h => leaf_kd h.2
  | n + 1, k, t, h => by
    rcases h with ⟨_, h⟩ | ⟨rfl, ⟨l, rfl, h⟩ | ⟨a, l, r, ha, rfl, hl, hr⟩⟩ | ⟨rfl, ⟨l, rfl, h⟩ | ⟨a, l, r, ha, rfl, hl, hr⟩ | ⟨a, k, l, r, ha, hk, rfl, hl, hr⟩⟩
    · exact leaf_kd h
    · obtain ⟨e, hn⟩ := pl_kd n h
      refine ⟨?_, rfl⟩
      rw [kd_one hn, e]; decide +kernel
    · obtain ⟨e, hn⟩ := pl_kd n hl
      obtain ⟨e2, hn2⟩ := pl_kd n hr
      refine ⟨?_, rfl⟩
      rw [kd_two hn hn2, e, e2]
      match a, ha with
      | 0, _ => decide +kernel
      | 1, _ => decide +kernel
      | 2, _ => decide +kernel
    · obtain ⟨e, hn⟩ := pl_kd n h
      refine ⟨?_, rfl⟩
      rw [kd_one hn, e]; decide +kernel
    · obtain ⟨e, hn⟩ := pl_kd n hl
      obtain ⟨e2, hn2⟩ := pl_kd n hr
      refine ⟨?_, rfl⟩
      rw [kd_two hn hn2, e, e2]
      match a, ha with
      | 0, _ => decide +kernel
      | 1, _ => decide +kernel
    · obtain ⟨e, hn⟩ := pl_kd n hl
      obtain ⟨e2, hn2⟩ := pl_kd n hr
      refine ⟨?_, rfl⟩
      rw [kd_two hn hn2, e, e2]
      rcases hk with rfl | rfl
      · match a, ha with
        | 0, _ => decide +kernel
        | 1, _ => decide +kernel
        | 2, _ => decide +kernel
        | 3, _ => decide +kernel
        | 4, _ => decide +kernel
        | 5, _ => decide +kernel
      · match a, ha with
        | 0, _ => decide +kernel
        | 1, _ => decide +kernel
        | 2, _ => decide +kernel
        | 3, _ => decide +kernel
        | 4, _ => decide +kernel
        | 5, _ => decide +kernel
/-- An expression alone in another, twice in another. -/
abbrev inOne (op : Int) (x : Pg × Tg) : Pg × Tg := ((op, nP), .node 0 0 x.1 x.2 .nil)
abbrev inTwo (op : Int) (x : Pg × Tg) : Pg × Tg := ((op, nP), .node 0 0 x.1 x.2 (.node 0 0 x.1 x.2 .nil))
theorem Ex.parts {Q : Nat → Prop} {w : World} {t : Tr} {o : Int} {p : Pay} {a : Option Addr} {n c : Nat} (h : Ex Q w t (exV o p (.slice a n c))) : (gP t).1 = (o, p) ∧ SlF Q w a n c (gP t).2 := by
  obtain ⟨a', n', c', e, hs⟩ := Ex.g h
  simp only [exC, List.cons.injEq, Value.int.injEq, Value.string.injEq, Value.slice.injEq, true_and, and_true] at e
  obtain ⟨e0, e1, e2, e3, e4, e5, rfl, rfl, rfl⟩ := e
  refine ⟨?_, hs⟩
  obtain ⟨k1, k2, k3, k4, k5⟩ := p
  rcases hg : gP t with ⟨⟨g0, g1, g2, g3, g4, g5⟩, gf⟩
  rw [hg] at e0 e1 e2 e3 e4 e5
  dsimp only at e0 e1 e2 e3 e4 e5
  rw [e0, e1, e2, e3, e4, e5]
set_option maxRecDepth 100000 in
set_option maxHeartbeats 1000000 in
theorem made10_any {w : World} {a : Option Addr} {len cap : Nat} (h1 : len ≤ cap) (h2 : cap ≤ 9223372036854775807) (h3 : Nums w w.heap.size a len) :
    Calls Tryz.prog 21 #[.slice a len cap] w fun e w' => e = .returned (.pointer (some ⟨w.heap.size, 0, none⟩)) ∧ Pk w' w.heap.size len ∧ Below w.heap.size w w' := by
  have hb := bal (Below.refl _ w) (.cells #[.slice a len cap, .int .i64 ((0 : Nat) : Int)] 101)
  have hp : Pk (w.alloc (.cells #[.slice a len cap, .int .i64 ((0 : Nat) : Int)] 101)) w.heap.size len := ⟨a, len, cap, 0, ⟨heap_alloc_new w _⟩, by omega, h1, h2, h3.keep (by have := hb.size; omega) fun k hk => hb.block k hk⟩
  have T : Hid _ := hid (And.intro hp hb)
  clear hp hb h3
  go_enter Tryz.func21, Tryz.ntmps21
  go_wp2
  go_ret
  exact ⟨rfl, T.out.1, T.out.2⟩
theorem fldT (a b : Value) (w : World) : (Instr.field 54 (.agg #[a, b]) 0).run Tryz.prog w = .ok a w := by kernel_rfl
end Go.Proofs.YtnlaaejdianfjaaGreat
namespace Go.Proofs.YtnlaaejdianfjaaGreat
open Go.RowKit
set_option linter.unusedVariables false
set_option linter.unusedSimpArgs false

theorem va_gd {k i : Int} {s : ByteArray} (h : VaOK k i s) : Gd (k, i, s) ∧ VF k (k, i, s) := by
  rcases h with ⟨rfl, rfl, hs⟩ | ⟨rfl, rfl, hi⟩
  · refine ⟨⟨fits0, ?_⟩, rfl, fun h => absurd h (by decide), fun _ => rfl, fun h => absurd h (by decide)⟩
    simp only [List.mem_cons, List.not_mem_nil, or_false] at hs
    rcases hs with rfl | rfl | rfl | rfl | rfl <;> decide
  · exact ⟨⟨by show -9223372036854775808 ≤ i ∧ i ≤ 9223372036854775807; omega, Nat.zero_le 500⟩, VF.num i⟩
theorem gT_wf {t : Tr} (hn : noT t = false) (h : wfT (gP t)) {s : Tg} (hs : wfF s) : wfF (gT t s) := by
  cases t with
  | nil => cases hn
  | node => exact ⟨h, hs⟩
theorem gT_lf {t : Tr} (hn : noT t = false) (h : lfT (gP t)) {s : Tg} (hs : lfF s) : lfF (gT t s) := by
  cases t with
  | nil => cases hn
  | node => exact ⟨h, hs⟩
theorem wf_one {op : Nat} {l : Tr} (hp : partsP (op : Int) = 1) (h1 : (op : Int) ≠ 1) (hn : noT l = false) (hw : wfT (gP l)) (hl : lfT (gP l)) : wfT (gP (tOne op l)) ∧ lfT (gP (tOne op l)) := by
  refine ⟨⟨?_, gd_z, gT_wf hn hw trivial⟩, fun h => absurd h h1, gT_lf hn hl trivial⟩
  show ((toL (gT l (gT .nil .nil))).length : Int) = partsP (op : Int)
  rw [gT_cons hn, hp]; rfl
theorem wf_two {op : Nat} {l r : Tr} (hp : partsP (op : Int) = 2) (h1 : (op : Int) ≠ 1) (hn : noT l = false) (hw : wfT (gP l)) (hl : lfT (gP l)) (hn2 : noT r = false) (hw2 : wfT (gP r)) (hl2 : lfT (gP r)) : wfT (gP (tTwo op l r)) ∧ lfT (gP (tTwo op l r)) := by
  refine ⟨⟨?_, gd_z, gT_wf hn hw (gT_wf hn2 hw2 trivial)⟩, fun h => absurd h h1, gT_lf hn hl (gT_lf hn2 hl2 trivial)⟩
  show ((toL (gT l (gT r .nil))).length : Int) = partsP (op : Int)
  rw [gT_cons hn, gT_cons hn2, hp]; rfl
theorem leaf_wf {C : Cl2} {k : Int} {t : Tr} (h : LeafOK C k t) : wfT (gP t) ∧ lfT (gP t) := by
  rcases h with ⟨tb, nm, rfl, -⟩ | ⟨i, s, rfl, hv⟩
  · exact ⟨⟨rfl, gd_z, trivial⟩, fun h => absurd h (show ¬ (2 : Int) = 1 by decide), trivial⟩
  · exact ⟨⟨rfl, (va_gd hv).1, trivial⟩, fun _ => (va_gd hv).2, trivial⟩
theorem pl_wf : ∀ (n : Nat) {k : Int} {t : Tr}, Pl C0 n k t → wfT (gP t) ∧ lfT (gP t)
  | 0, k, t, h => leaf_wf h.2
  | n + 1, k, t, h => by
    rcases h with ⟨_, h⟩ | ⟨rfl, ⟨l, rfl, h⟩ | ⟨a, l, r, ha, rfl, hl, hr⟩⟩ | ⟨rfl, ⟨l, rfl, h⟩ | ⟨a, l, r, ha, rfl, hl, hr⟩ | ⟨a, k, l, r, ha, hk, rfl, hl, hr⟩⟩
    · exact leaf_wf h
    · exact wf_one rfl (by decide) (pl_kd n h).2 (pl_wf n h).1 (pl_wf n h).2
    · refine wf_two ?_ (by omega) (pl_kd n hl).2 (pl_wf n hl).1 (pl_wf n hl).2 (pl_kd n hr).2 (pl_wf n hr).1 (pl_wf n hr).2
      match a, ha with
      | 0, _ => rfl
      | 1, _ => rfl
      | 2, _ => rfl
    · exact wf_one rfl (by decide) (pl_kd n h).2 (pl_wf n h).1 (pl_wf n h).2
    · refine wf_two ?_ (by omega) (pl_kd n hl).2 (pl_wf n hl).1 (pl_wf n hl).2 (pl_kd n hr).2 (pl_wf n hr).1 (pl_wf n hr).2
      match a, ha with
      | 0, _ => rfl
      | 1, _ => rfl
    · refine wf_two ?_ (by omega) (pl_kd n hl).2 (pl_wf n hl).1 (pl_wf n hl).2 (pl_kd n hr).2 (pl_wf n hr).1 (pl_wf n hr).2
      match a, ha with
      | 0, _ => rfl
      | 1, _ => rfl
      | 2, _ => rfl
      | 3, _ => rfl
      | 4, _ => rfl
      | 5, _ => rfl
/-- The values of a row by numbers. -/
def RwOK (L : List Co) (V : List Vt) : Prop := V.length = L.length ∧ ∀ i (h1 : i < L.length) (h2 : i < V.length), V[i].1 = L[i].2.1 ∧ VaOK L[i].2.1 V[i].2.1 V[i].2.2
abbrev vC (v : Vt) : List Value := [.int .i64 v.1, .int .i64 v.2.1, .string v.2.2]
end Go.Proofs.YtnlaaejdianfjaaGreat
namespace Go.Proofs.YtnlaaejdianfjaaGreat
open Go.RowKit
set_option linter.unusedVariables false
set_option linter.unusedSimpArgs false

abbrev I0 : List It := C0.map Prod.fst
abbrev K0 : List Int := C0.map Prod.snd
theorem rw_vals {V : List Vt} (h : RwOK tbT.cols V) : I0.length = V.length ∧ (∀ i (h1 : i < K0.length) (h2 : i < V.length), VF K0[i] V[i]) ∧ ∀ v ∈ V, Gd v := by
  obtain ⟨hl, hv⟩ := h
  have hl3 : V.length = 3 := hl
  match V, hl3 with
  | [v0, v1, v2], _ =>
    have q0 := hv 0 (by decide) (by simp)
    have q1 := hv 1 (by decide) (by simp)
    have q2 := hv 2 (by decide) (by simp)
    simp only [List.getElem_cons_zero, List.getElem_cons_succ] at q0 q1 q2
    have f : ∀ {k : Int} {v : Vt}, v.1 = k → VaOK k v.2.1 v.2.2 → Gd v ∧ VF k v := fun {k v} h1 h2 => by
      obtain ⟨a, b, c⟩ := v
      dsimp only at h1 h2
      subst h1
      exact va_gd h2
    have g0 := f q0.1 q0.2
    have g1 := f q1.1 q1.2
    have g2 := f q2.1 q2.2
    refine ⟨rfl, fun i h1 h2 => ?_, fun v hv => ?_⟩
    · have hi : i < 3 := h1
      match i, hi with
      | 0, _ => exact g0.2
      | 1, _ => exact g1.2
      | 2, _ => exact g2.2
    · simp only [List.mem_cons, List.not_mem_nil, or_false] at hv
      rcases hv with rfl | rfl | rfl
      · exact g0.1
      · exact g1.1
      · exact g2.1
theorem nums_on {w w1 : World} {a : Option Addr} {len : Nat} (h : Nums w w.heap.size a len) (hb : Below w.heap.size w w1) : Nums w1 w1.heap.size a len := fun hp => by
  obtain ⟨b, o, ha, hb1, hb2, hz⟩ := h hp
  refine ⟨b, o, ha, by have := hb.size; omega, by have := hb.size; omega, fun k hk => ?_⟩
  obtain ⟨z, z1, z2, z3⟩ := hz k hk
  exact ⟨z, z1, z2, cell_later hb z3⟩
end Go.Proofs.YtnlaaejdianfjaaGreat
namespace Go.Proofs.YtnlaaejdianfjaaGreat
open Go.RowKit
set_option linter.unusedVariables false
set_option linter.unusedSimpArgs false

end Go.Proofs.YtnlaaejdianfjaaGreat
namespace Go.Proofs.YtnlaaejdianfjaaGreat
open Go.RowKit
set_option linter.unusedVariables false
set_option linter.unusedSimpArgs false

end Go.Proofs.YtnlaaejdianfjaaGreat
