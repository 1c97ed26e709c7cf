import Derived.Test.YtbmfehacnigknaaQsai
import Derived.Test.YtbmfehacnigknaaQsaj
namespace Go.Proofs.Ytbmfehacnigknaa
open Go.RowKit
set_option linter.unusedVariables false
set_option linter.unusedSimpArgs false

/-- The column that the document means. -/
def idxs (n : Nat) : List Int := (List.range n).map fun i : Nat => (i : Int)
def colR (C : List It) (V : List Vt) (tb nm : ByteArray) : Vt × Int := if (clmK (pairP C (idxs V.length)) tb nm).2 = 0 then ((V[(clmK (pairP C (idxs V.length)) tb nm).1.toNat]?).getD vZ, 0) else (vZ, 10)
theorem idxs_len (n : Nat) : (idxs n).length = n := by simp [idxs]
def rfA (op : Int) (r0 r1 : Vt × Int) : Vt × Int := if r0.2 ≠ 0 then (vZ, r0.2) else if op = 3 then numE (-r0.1.2.1) else if op = 4 then (trV (decide (r0.1.2.1 = 0)), 0) else if op = 14 ∧ r0.1.2.1 = 0 then (trV false, 0) else if op = 15 ∧ r0.1.2.1 = 1 then (trV true, 0) else if r1.2 ≠ 0 then (vZ, r1.2) else rTwo op r0.1 r1.1
def rf1 (C : List It) (V : List Vt) (p : Pg) (rs : List (Vt × Int)) : Vt × Int := if p.1 = 1 then ((p.2.1, p.2.2.1, p.2.2.2.1), 0) else if p.1 = 2 then colR C V p.2.2.2.2.1 p.2.2.2.2.2 else rfA p.1 (rs.headD (vZ, 0)) (rs.tail.headD (vZ, 0))
/-- Every part has as many parts as it must have; numbers fit, texts are not too long. -/
def wfF : Tg → Prop
  | .nil => True
  | .node _ _ p l r => (((toL l).length : Int) = partsP p.1 ∧ Gd (p.2.1, p.2.2.1, p.2.2.2.1) ∧ wfF l) ∧ wfF r
def wfT (x : Pg × Tg) : Prop := ((toL x.2).length : Int) = partsP x.1.1 ∧ Gd (x.1.2.1, x.1.2.2.1, x.1.2.2.2.1) ∧ wfF x.2
def rfs (C : List It) (V : List Vt) : Tg → List (Vt × Int)
  | .nil => []
  | .node _ _ p l r => rf1 C V p (rfs C V l) :: rfs C V r
/-- What the document says an expression comes to. -/
def rfT (C : List It) (V : List Vt) (t : Pg × Tg) : Vt × Int := rf1 C V t.1 (rfs C V t.2)
theorem rfs_map (C : List It) (V : List Vt) : ∀ f : Tg, rfs C V f = (toL f).map (rfT C V) := by
  intro f
  induction f with
  | nil => rfl
  | node x y p l r ihl ihr => rw [rfs, toL, List.map_cons, ← ihr]; rfl
theorem wf_ftF : ∀ {f : Tg}, wfF f → ftF f := by
  intro f
  induction f with
  | nil => intro _; trivial
  | node a b p l r ihl ihr => exact fun h => ⟨h.1.2.1.1, ihl h.1.2.2, ihr h.2⟩
theorem wf_ft {x : Pg × Tg} (h : wfT x) : ftT x := ⟨h.2.1.1, wf_ftF h.2.2⟩
theorem rfT_lit {C : List It} {V : List Vt} {x : Pg × Tg} (h1 : x.1.1 = 1) : rfT C V x = ((x.1.2.1, x.1.2.2.1, x.1.2.2.2.1), 0) := by unfold rfT rf1; rw [if_pos h1]
theorem rfT_col {C : List It} {V : List Vt} {x : Pg × Tg} (h2 : x.1.1 = 2) : rfT C V x = colR C V x.1.2.2.2.2.1 x.1.2.2.2.2.2 := by unfold rfT rf1; rw [if_neg (by omega), if_pos h2]
theorem rfT_one {C : List It} {V : List Vt} {x u : Pg × Tg} (h1 : x.1.1 ≠ 1) (h2 : x.1.1 ≠ 2) (hl : toL x.2 = [u]) : rfT C V x = rfA x.1.1 (rfT C V u) (vZ, 0) := by
  unfold rfT rf1; rw [if_neg h1, if_neg h2, rfs_map, hl]; rfl
theorem rfT_two {C : List It} {V : List Vt} {x u v : Pg × Tg} (h1 : x.1.1 ≠ 1) (h2 : x.1.1 ≠ 2) (hl : toL x.2 = [u, v]) : rfT C V x = rfA x.1.1 (rfT C V u) (rfT C V v) := by
  unfold rfT rf1; rw [if_neg h1, if_neg h2, rfs_map, hl]; rfl
end Go.Proofs.Ytbmfehacnigknaa
namespace Go.Proofs.Ytbmfehacnigknaa
open Go.RowKit
set_option linter.unusedVariables false
set_option linter.unusedSimpArgs false

/-- A value of a kind, as the code makes them. -/
def VF (k : Int) (v : Vt) : Prop := v.1 = k ∧ (k = 1 → v.2.2 = ⟨#[]⟩) ∧ (k = 2 → v.2.1 = 0) ∧ (k = 3 → v = trV true ∨ v = trV false)
theorem VF.tr (b : Bool) : VF 3 (trV b) := ⟨rfl, fun h => absurd h (by decide), fun h => absurd h (by decide), fun _ => by cases b; exact .inr rfl; exact .inl rfl⟩
theorem VF.num (z : Int) : VF 1 (1, z, ⟨#[]⟩) := ⟨rfl, fun _ => rfl, fun h => absurd h (by decide), fun h => absurd h (by decide)⟩
def nz (r : Vt × Int) : Vt × Int := if r.2 ≠ 0 then (vZ, r.2) else r
theorem nz_ok {r : Vt × Int} (h : r.2 = 0) : nz r = r := by unfold nz; rw [if_neg (by simpa using h)]
theorem nz_er {r : Vt × Int} (h : r.2 ≠ 0) : nz r = (vZ, r.2) := by unfold nz; rw [if_pos h]
theorem erL_one (a : Int) : erL [a] = a := by
  unfold erL erL
  split
  · exact Eq.symm (by assumption)
  · rfl
theorem erL_two (a b : Int) : erL [a, b] = if a = 0 then b else a := by
  show (if a = 0 then erL [b] else a) = _
  rw [erL_one]
theorem kn_ok {v : Vt} {k : Int} (h : v.1 = k) : knP v k = (v.2.1, 0) := if_pos h
theorem numE_nz (z : Int) : nz ((1, nV z, ⟨#[]⟩), nE z) = numE z := by
  unfold nz numE
  by_cases h : nE z = 0
  · rw [if_neg (by simpa using h), if_neg (by simpa using h), h]
  · rw [if_pos h, if_pos h]
/-- What the code makes of what one part, or two parts, come to. -/
def evO (op : Int) (r0 : Vt × Int) : Vt × Int := if erL [r0.2] ≠ 0 then (vZ, erL [r0.2]) else madeP op [r0.1]
def evW (op : Int) (r0 r1 : Vt × Int) : Vt × Int := if erL [r0.2, r1.2] ≠ 0 then (vZ, erL [r0.2, r1.2]) else madeP op [r0.1, r1.1]
theorem ag_neg {r0 : Vt × Int} (hv : r0.2 = 0 → VF 1 r0.1) : nz (evO 3 r0) = rfA 3 (nz r0) (vZ, 0) ∧ ((evO 3 r0).2 = 0 → VF 1 (evO 3 r0).1) := by
  unfold evO
  rw [erL_one]
  by_cases h : r0.2 = 0
  · have h1 : madeP 3 [r0.1] = ((1, nV (-r0.1.2.1), ⟨#[]⟩), nE (-r0.1.2.1)) := by
      show recP 3 [r0.1] = _
      unfold recP
      have e1 : erL ([r0.1].map fun v => (knP v 1).2) = 0 := by rw [List.map_cons, List.map_nil, erL_one, kn_ok (hv h).1]
      rw [if_neg (by simpa using e1)]
      rfl
    rw [if_neg (by simpa using h), h1, numE_nz, nz_ok h]
    refine ⟨?_, fun _ => VF.num _⟩
    unfold rfA
    rw [if_neg (by simpa using h), if_pos rfl]
  · rw [if_pos h, nz_er (r := r0) h]
    refine ⟨?_, fun k => absurd k h⟩
    unfold rfA
    rw [if_pos h]
    exact nz_er h
theorem ag_not {r0 : Vt × Int} (hv : r0.2 = 0 → VF 3 r0.1) : nz (evO 4 r0) = rfA 4 (nz r0) (vZ, 0) ∧ ((evO 4 r0).2 = 0 → VF 3 (evO 4 r0).1) := by
  unfold evO
  rw [erL_one]
  by_cases h : r0.2 = 0
  · have h1 : madeP 4 [r0.1] = (trV (!decide (r0.1.2.1 = 1)), 0) := by
      show (trV (!decide ((knP r0.1 3).1 = 1)), (knP r0.1 3).2) = _
      rw [kn_ok (hv h).1]
    rw [if_neg (by simpa using h), h1, nz_ok rfl, nz_ok h]
    refine ⟨?_, fun _ => VF.tr _⟩
    unfold rfA
    rw [if_neg (by simpa using h), if_neg (by decide), if_pos rfl]
    rcases (hv h).2.2.2 rfl with e | e <;> rw [e] <;> rfl
  · rw [if_pos h, nz_er (r := r0) h]
    refine ⟨?_, fun k => absurd k h⟩
    unfold rfA
    rw [if_pos h]
    exact nz_er h
theorem rfA_er {op : Int} {r0 r1 : Vt × Int} (h : r0.2 ≠ 0) : rfA op r0 r1 = (vZ, r0.2) := by unfold rfA; rw [if_pos h]
theorem rfA_two {op : Int} {r0 r1 : Vt × Int} (h : r0.2 = 0) (h3 : op ≠ 3) (h4 : op ≠ 4) (h14 : op ≠ 14) (h15 : op ≠ 15) : rfA op r0 r1 = if r1.2 ≠ 0 then (vZ, r1.2) else rTwo op r0.1 r1.1 := by
  unfold rfA
  rw [if_neg (by simpa using h), if_neg h3, if_neg h4, if_neg (fun k => h14 k.1), if_neg (fun k => h15 k.1)]
theorem ag_two {op k kr : Int} {r0 r1 : Vt × Int} (h3 : op ≠ 3) (h4 : op ≠ 4) (h14 : op ≠ 14) (h15 : op ≠ 15) (hm : VF k r0.1 → VF k r1.1 → nz (madeP op [r0.1, r1.1]) = rTwo op r0.1 r1.1 ∧ ((madeP op [r0.1, r1.1]).2 = 0 → VF kr (madeP op [r0.1, r1.1]).1)) (hv0 : r0.2 = 0 → VF k r0.1) (hv1 : r1.2 = 0 → VF k r1.1) : nz (evW op r0 r1) = rfA op (nz r0) (nz r1) ∧ ((evW op r0 r1).2 = 0 → VF kr (evW op r0 r1).1) := by
  unfold evW
  rw [erL_two]
  by_cases h : r0.2 = 0
  · rw [if_pos h, nz_ok h, rfA_two h h3 h4 h14 h15]
    by_cases g : r1.2 = 0
    · rw [if_neg (by simpa using g), nz_ok g, if_neg (by simpa using g)]
      exact hm (hv0 h) (hv1 g)
    · rw [if_pos g, nz_er (r := r1) g, if_pos g]
      exact ⟨nz_er g, fun k => absurd k g⟩
  · rw [if_neg h, if_pos h, nz_er (r := r0) h, rfA_er (r0 := (vZ, r0.2)) h]
    exact ⟨nz_er h, fun k => absurd k h⟩
theorem ag_num {op : Int} (hop : op = 5 ∨ op = 6 ∨ op = 7) {a b : Vt} (ha : VF 1 a) (hb : VF 1 b) : nz (madeP op [a, b]) = rTwo op a b ∧ ((madeP op [a, b]).2 = 0 → VF 1 (madeP op [a, b]).1) := by
  have e1 : erL ([a, b].map fun v => (knP v 1).2) = 0 := by
    rw [List.map_cons, List.map_cons, List.map_nil, erL_two, kn_ok ha.1, kn_ok hb.1]
    rfl
  have h1 : madeP op [a, b] = ((1, nV (numR op a.2.1 b.2.1), ⟨#[]⟩), nE (numR op a.2.1 b.2.1)) := by
    have hn : isNumOp op = true := by rcases hop with rfl | rfl | rfl <;> rfl
    unfold madeP
    rw [if_pos hn]
    unfold recP
    rw [if_neg (by simpa using e1)]
    rcases hop with rfl | rfl | rfl <;> rfl
  rw [h1, numE_nz]
  refine ⟨?_, fun _ => VF.num _⟩
  unfold rTwo
  rw [if_neg (by omega), if_neg (by omega)]
theorem cmp_ref {k : Int} (hk : k = 1 ∨ k = 2) {a b : Vt} (ha : VF k a) (hb : VF k b) : cmpVt a b = refVt a b := by
  obtain ⟨a0, a1, a2⟩ := a
  obtain ⟨b0, b1, b2⟩ := b
  obtain ⟨ha0, ha1, ha2, -⟩ := ha
  obtain ⟨hb0, hb1, hb2, -⟩ := hb
  dsimp only at *
  unfold cmpVt refVt cmpV refC
  dsimp only
  rw [ha0, hb0, cmpI_eq, if_neg (by omega), if_neg (by omega)]
  rcases hk with rfl | rfl
  · rw [ha1 rfl, hb1 rfl, lexI_self, if_pos rfl]
    unfold orI
    rw [if_pos rfl]
    split
    · exact Eq.symm (by assumption)
    · rfl
  · rw [ha2 rfl, hb2 rfl, cmpI_eq, if_neg (by decide)]
    rfl
theorem ag_cmp {op k : Int} (hop : 8 ≤ op ∧ op ≤ 13) (hk : k = 1 ∨ k = 2) {a b : Vt} (ha : VF k a) (hb : VF k b) : nz (madeP op [a, b]) = rTwo op a b ∧ ((madeP op [a, b]).2 = 0 → VF 3 (madeP op [a, b]).1) := by
  have hn : ¬ isNumOp op = true := by rw [numOp_is]; omega
  have h1 : madeP op [a, b] = (trV (standsP op (cmpVt a b)), 0) := by
    unfold madeP
    rw [if_neg hn, if_neg (by omega)]
    show cmpdP op a b = _
    unfold cmpdP
    rw [if_neg (by rw [ha.1, hb.1]; omega)]
  rw [h1, nz_ok rfl]
  refine ⟨?_, fun _ => VF.tr _⟩
  unfold rTwo
  rw [if_neg (by omega), if_pos hop.1, cmp_ref hk ha hb]
theorem bo_ok {r : Vt × Int} (h : r.2 = 0) (hv : VF 3 r.1) : boP r = (r.1.2.1, 0) := by unfold boP; rw [if_neg (by simpa using h), kn_ok hv.1]
theorem bo_er {r : Vt × Int} (h : r.2 ≠ 0) : boP r = (0, r.2) := by unfold boP; rw [if_pos h]
theorem ag_up {op z : Int} (hop : (op = 14 ∧ z = 0) ∨ (op = 15 ∧ z = 1)) {r0 r1 : Vt × Int} (hv0 : r0.2 = 0 → VF 3 r0.1) (hv1 : r1.2 = 0 → VF 3 r1.1) : nz (upP z r0 r1) = rfA op (nz r0) (nz r1) ∧ ((upP z r0 r1).2 = 0 → VF 3 (upP z r0 r1).1) := by
  unfold upP
  by_cases h : r0.2 = 0
  · rw [bo_ok h (hv0 h), if_neg (by simp), nz_ok h]
    dsimp only
    have hr : rfA op r0 (nz r1) = if op = 14 ∧ r0.1.2.1 = 0 then (trV false, 0) else if op = 15 ∧ r0.1.2.1 = 1 then (trV true, 0) else if (nz r1).2 ≠ 0 then (vZ, (nz r1).2) else rTwo op r0.1 (nz r1).1 := by
      unfold rfA
      rw [if_neg (by simpa using h), if_neg (by omega), if_neg (by omega)]
    by_cases hz : r0.1.2.1 = z
    · have hr2 : rfA op r0 (nz r1) = (trV (decide (z = 1)), 0) := by
        rw [hr]
        rcases hop with ⟨rfl, rfl⟩ | ⟨rfl, rfl⟩
        · rw [if_pos ⟨rfl, hz⟩]; rfl
        · rw [if_neg (fun k => absurd k.1 (by decide)), if_pos ⟨rfl, hz⟩]; rfl
      rw [hr2, if_pos hz]
      exact ⟨nz_ok rfl, fun _ => VF.tr _⟩
    · have hr2 : rfA op r0 (nz r1) = if (nz r1).2 ≠ 0 then (vZ, (nz r1).2) else rTwo op r0.1 (nz r1).1 := by
        rw [hr]
        rcases hop with ⟨rfl, rfl⟩ | ⟨rfl, rfl⟩
        · rw [if_neg (fun k => hz k.2), if_neg (fun k => absurd k.1 (by decide))]
        · rw [if_neg (fun k => absurd k.1 (by decide)), if_neg (fun k => hz k.2)]
      rw [hr2, if_neg hz]
      by_cases g : r1.2 = 0
      · rw [bo_ok g (hv1 g), if_neg (by simp), nz_ok g, if_neg (by simpa using g), nz_ok rfl]
        refine ⟨?_, fun _ => VF.tr _⟩
        unfold rTwo
        rw [if_pos (by omega)]
      · rw [bo_er g, if_pos (show (0, r1.2).2 ≠ 0 from g), nz_er (r := r1) g, if_pos (show ((vZ, r1.2) : Vt × Int).2 ≠ 0 from g)]
        exact ⟨nz_er g, fun k => absurd k g⟩
  · rw [bo_er h, if_pos h, nz_er (r := r0) h, rfA_er (r0 := (vZ, r0.2)) h]
    exact ⟨nz_er h, fun k => absurd k h⟩
theorem it_same (tb nm : ByteArray) (c : It) : itIs tb nm c = itV tb nm c := by
  unfold itIs itV eqS
  rw [show decide (tb = c.2.1) = decide (c.2.1 = tb) from by rw [Bool.eq_iff_iff]; simp [eq_comm]]
theorem col_cases (C : List It) (tb nm : ByteArray) : (∃ q : Nat, ∃ hq : q < C.length, fidx (itV tb nm) C = q ∧ (C.drop (q + 1)).any (itV tb nm) = false ∧ ∀ K : List Int, (h : K.length = C.length) → clmK (pairP C K) tb nm = (K[q], 0)) ∨ (¬ (0 ≤ fidx (itV tb nm) C ∧ (C.drop ((fidx (itV tb nm) C).toNat + 1)).any (itV tb nm) = false) ∧ ∀ K : List Int, K.length = C.length → clmK (pairP C K) tb nm = (0, 10)) := by
  rcases fidx_vals (itV tb nm) C with e | ⟨q, e, hq⟩
  · refine .inr ⟨fun h => by omega, fun K hK => ?_⟩
    have ha : C.any (itV tb nm) = false := by rw [← fidxV_any, e]; rfl
    have hf : (pairP C K).filter (clmIs tb nm) = [] := filter_none fun j hj => by
      have hj' : j < C.length := by rw [pairP_len] at hj; omega
      rw [pairP_is hj' (by omega) hj, it_same]
      rw [List.any_eq_false] at ha
      simpa using ha C[j] (List.getElem_mem hj')
    unfold clmK
    rw [hf]
  · obtain ⟨hq', hp⟩ := fidx_at e
    have hbef : ∀ j (hj : j < C.length), j < q → itV tb nm C[j] = false := by
      intro j hj hjq
      unfold fidx at e
      split at e
      · have hfi : C.findIdx (itV tb nm) = q := by omega
        have := List.not_of_lt_findIdx (p := itV tb nm) (xs := C) (i := j) (by omega)
        simpa using this
      · omega
    by_cases ha : (C.drop (q + 1)).any (itV tb nm) = false
    · refine .inl ⟨q, hq, e, ha, fun K hK => ?_⟩
      have hlp : (pairP C K).length = C.length := by rw [pairP_len]; omega
      have hf : (pairP C K).filter (clmIs tb nm) = [(pairP C K)[q]] := filter_only (by omega) (by rw [pairP_is hq (by omega), it_same]; exact hp) fun j hj hjq => by
        have hj' : j < C.length := by omega
        rw [pairP_is hj' (by omega), it_same]
        rcases Nat.lt_or_gt_of_ne hjq with h | h
        · exact hbef j hj' h
        · rw [List.any_eq_false] at ha
          have := ha C[j] (by rw [List.mem_iff_getElem]; exact ⟨j - (q + 1), by rw [List.length_drop]; omega, by rw [List.getElem_drop]; congr 1; omega⟩)
          simpa using this
      unfold clmK
      rw [hf]
      show ((pairP C K)[q].2.2, 0) = _
      have e2 : (pairP C K)[q] = (C[q].2.1, C[q].2.2, K[q]) := by simp only [pairP, List.getElem_map, List.getElem_zip]
      rw [e2]
    · refine .inr ⟨fun h => ha (by have := h.2; rwa [e, Int.toNat_natCast] at this), fun K hK => ?_⟩
      rw [Bool.not_eq_false, List.any_eq_true] at ha
      obtain ⟨c, hc, hpc⟩ := ha
      obtain ⟨i, hi, rfl⟩ := List.mem_iff_getElem.1 hc
      rw [List.length_drop] at hi
      rw [List.getElem_drop] at hpc
      have hlp : (pairP C K).length = C.length := by rw [pairP_len]; omega
      have h2 := filter_two (p := clmIs tb nm) (l := pairP C K) (q := q) (r := q + 1 + i) (by omega) (by omega) (by omega) (by rw [pairP_is hq (by omega), it_same]; exact hp) (by rw [pairP_is (by omega) (by omega), it_same]; exact hpc)
      unfold clmK
      match hm : (pairP C K).filter (clmIs tb nm), h2 with
      | a :: b :: r, _ => rfl
theorem ag_col {C : List It} {V : List Vt} (hCV : C.length = V.length) (tb nm : ByteArray) : colV C V tb nm = colR C V tb nm ∧ ∀ K : List Int, K.length = C.length → (∀ i (h1 : i < K.length) (h2 : i < V.length), VF K[i] V[i]) → ∀ k, clmK (pairP C K) tb nm = (k, 0) → (colV C V tb nm).2 = 0 ∧ VF k (colV C V tb nm).1 := by
  rcases col_cases C tb nm with ⟨q, hq, e, ha, hK⟩ | ⟨hn, hK⟩
  · have e1 : colV C V tb nm = (V[q]'(by omega), 0) := by
      unfold colV
      rw [e, if_pos ⟨by omega, by rw [Int.toNat_natCast]; exact ha⟩, Int.toNat_natCast, List.getElem?_eq_getElem (by omega)]
      rfl
    refine ⟨?_, fun K hl hv k hk => ?_⟩
    · rw [e1]
      unfold colR
      rw [hK (idxs V.length) (by rw [idxs_len]; omega), if_pos rfl]
      have e2 : (idxs V.length)[q]'(by rw [idxs_len]; omega) = (q : Int) := by simp [idxs]
      rw [e2]
      show _ = ((V[((q : Int)).toNat]?).getD vZ, 0)
      rw [Int.toNat_natCast, List.getElem?_eq_getElem (by omega)]
      rfl
    · rw [hK K hl] at hk
      injection hk with hk1 _
      rw [e1, ← hk1]
      exact ⟨rfl, hv q (by omega) (by omega)⟩
  · have e1 : colV C V tb nm = (vZ, 10) := by unfold colV; rw [if_neg hn]
    refine ⟨?_, fun K hl hv k hk => ?_⟩
    · rw [e1]
      unfold colR
      rw [hK (idxs V.length) (by rw [idxs_len]; omega), if_neg (by decide)]
    · rw [hK K hl] at hk
      injection hk with _ hk2
      cases hk2

end Go.Proofs.Ytbmfehacnigknaa
namespace Go.Proofs.Ytbmfehacnigknaa
open Go.RowKit
set_option linter.unusedVariables false
set_option linter.unusedSimpArgs false

theorem ev1_gd {C : List It} {V : List Vt} (hV : ∀ v ∈ V, Gd v) {p : Pg} (hp : Gd (p.2.1, p.2.2.1, p.2.2.2.1)) {rs : List (Vt × Int)} : Gd (ev1 C V p rs).1 := by
  unfold ev1
  split
  · exact gd_z
  split
  · exact hp
  split
  · unfold colV
    split
    · cases h : V[(fidx (itV p.2.2.2.2.1 p.2.2.2.2.2) C).toNat]? with
      | none => exact gd_z
      | some v => exact hV v (List.mem_of_getElem? h)
    · exact gd_z
  split
  · unfold upP
    split
    · exact gd_tr _
    split
    · exact gd_tr _
    split
    · exact gd_tr _
    · exact gd_tr _
  split
  · unfold upP
    split
    · exact gd_tr _
    split
    · exact gd_tr _
    split
    · exact gd_tr _
    · exact gd_tr _
  split
  · exact gd_z
  unfold madeP
  split
  · unfold recP
    split
    · exact gd_z
    · exact gd_num _
  split
  · exact gd_tr _
  unfold cmpdP
  split
  · exact gd_z
  · exact gd_tr _
theorem evT_gd {C : List It} {V : List Vt} (hV : ∀ v ∈ V, Gd v) {x : Pg × Tg} (hx : Gd (x.1.2.1, x.1.2.2.1, x.1.2.2.2.1)) : Gd (evT C V x).1 := ev1_gd hV hx
theorem evT_one {C : List It} {V : List Vt} {x u : Pg × Tg} (hop : x.1.1 = 3 ∨ x.1.1 = 4) (hl : toL x.2 = [u]) : evT C V x = evO x.1.1 (evT C V u) := by
  have hp : partsP x.1.1 = 1 := by rcases hop with h | h <;> rw [h] <;> rfl
  unfold evT ev1
  rw [evs_map, hl, if_neg (by rw [hp]; intro h; exact h rfl), if_neg (by omega), if_neg (by omega), if_neg (by omega), if_neg (by omega)]
  rfl
theorem evT_two {C : List It} {V : List Vt} {x u v : Pg × Tg} (hop : 5 ≤ x.1.1 ∧ x.1.1 ≤ 13) (hl : toL x.2 = [u, v]) : evT C V x = evW x.1.1 (evT C V u) (evT C V v) := by
  have hp : partsP x.1.1 = 2 := by unfold partsP; rw [if_neg (by omega), if_neg (by omega), if_neg (by omega), if_neg (by omega), if_pos (by omega)]
  unfold evT ev1
  rw [evs_map, hl, if_neg (by rw [hp]; intro h; exact h rfl), if_neg (by omega), if_neg (by omega), if_neg (by omega), if_neg (by omega)]
  rfl
theorem takes1 {f : List Int} {a : Int} (h : takesP f [a] = true) : f.contains a = true := by
  unfold takesP at h
  rw [Bool.and_eq_true] at h
  simpa using h.2
theorem takes2 {f : List Int} {a b : Int} (h : takesP f [a, b] = true) : b = a ∧ f.contains a = true := by
  unfold takesP alikeP at h
  rw [Bool.and_eq_true] at h
  simp only [List.all_cons, List.all_nil, List.headD_cons, Bool.and_true, Bool.and_eq_true, beq_iff_eq] at h
  exact ⟨h.1.2, h.2.1⟩
theorem wayA_in {op : Int} {v : Int × List Int × Int} (h : wayA op = some v) : 1 ≤ op ∧ op ≤ 15 := by
  by_cases hh : 1 ≤ op ∧ op ≤ 15
  · exact hh
  · exfalso
    unfold wayA at h
    rw [if_neg (by omega), if_neg (by omega), if_neg (by omega), if_neg (by omega), if_neg (by omega), if_neg (by omega), if_neg (by omega), if_neg (by omega), if_neg (by omega), if_neg (by omega), if_neg (by omega), if_neg (by omega), if_neg (by omega), if_neg (by omega), if_neg (by omega)] at h
    cases h
/-- What a kind says of an expression's parts. -/
theorem kd_parts {S : List Cl3} {x : Pg × Tg} {k : Int} (h : kdT S x = (k, 0)) : ∃ v, wayA x.1.1 = some v ∧ ((toL x.2).length : Int) = v.1 ∧ (x.1.1 ≠ 1 → x.1.1 ≠ 2 → erL ((toL x.2).map fun x => (kdT S x).2) = 0 ∧ takesP v.2.1 ((toL x.2).map fun x => (kdT S x).1) = true ∧ k = v.2.2) := by
  cases hw : wayA x.1.1 with
  | none => rw [kdT_none hw] at h; injection h with _ h2; cases h2
  | some v =>
    by_cases hn : ((toL x.2).length : Int) = v.1
    · refine ⟨v, rfl, hn, fun h1 h2 => ?_⟩
      by_cases he : erL ((toL x.2).map fun x => (kdT S x).2) = 0
      · rw [kdT_ok hw hn h1 h2 he] at h
        split at h
        · rename_i ht
          injection h with h3 _
          exact ⟨he, ht, h3.symm⟩
        · injection h with _ h4; cases h4
      · rw [kdT_err hw hn h1 h2 he] at h
        injection h with _ h4
        exact absurd h4 he
    · rw [kdT_len hw hn] at h; injection h with _ h2; cases h2
def lfF : Tg → Prop
  | .nil => True
  | .node _ _ p l r => ((p.1 = 1 → VF p.2.1 (p.2.1, p.2.2.1, p.2.2.2.1)) ∧ lfF l) ∧ lfF r
def lfT (x : Pg × Tg) : Prop := (x.1.1 = 1 → VF x.1.2.1 (x.1.2.1, x.1.2.2.1, x.1.2.2.2.1)) ∧ lfF x.2
def AgC (C : List It) (K : List Int) (V : List Vt) (x : Pg × Tg) : Prop := ∀ k, kdT (pairP C K) x = (k, 0) → nz (evT C V x) = rfT C V x ∧ ((evT C V x).2 = 0 → VF k (evT C V x).1)
theorem ag_step {C : List It} {K : List Int} {V : List Vt} (hCV : C.length = V.length) (hCK : K.length = C.length) (hKV : ∀ i (h1 : i < K.length) (h2 : i < V.length), VF K[i] V[i]) (x : Pg × Tg) (hl : x.1.1 = 1 → VF x.1.2.1 (x.1.2.1, x.1.2.2.1, x.1.2.2.2.1)) (ih : ∀ y ∈ toL x.2, AgC C K V y) : AgC C K V x := by
  intro k hk
  obtain ⟨v, hw, hn, hp⟩ := kd_parts hk
  have hop := wayA_in hw
  by_cases h1 : x.1.1 = 1
  · have hv : v.1 = 0 := by rw [h1] at hw; injection hw with hw; rw [← hw]
    have hpp : partsP x.1.1 = 0 := by rw [h1]; rfl
    rw [kdT_lit hw hn h1] at hk
    injection hk with hk1 _
    rw [evT_lit (by rw [hn, hv, hpp]) h1, rfT_lit h1, ← hk1]
    exact ⟨nz_ok rfl, fun _ => hl h1⟩
  by_cases h2 : x.1.1 = 2
  · have hv : v.1 = 0 := by rw [h2] at hw; injection hw with hw; rw [← hw]
    have hpp : partsP x.1.1 = 0 := by rw [h2]; rfl
    rw [kdT_col hw hn h1 h2] at hk
    obtain ⟨hc1, hc2⟩ := ag_col hCV x.1.2.2.2.2.1 x.1.2.2.2.2.2
    obtain ⟨e0, hvf⟩ := hc2 K hCK hKV k hk
    rw [evT_col (by rw [hn, hv, hpp]) h2, rfT_col h2]
    exact ⟨by rw [nz_ok e0, hc1], fun _ => hvf⟩
  obtain ⟨he, ht, hkv⟩ := hp h1 h2
  have sub : ∀ y ∈ toL x.2, ∀ ky, kdT (pairP C K) y = (ky, 0) → rfT C V y = nz (evT C V y) ∧ ((evT C V y).2 = 0 → VF ky (evT C V y).1) := fun y hy ky hyk => ⟨((ih y hy) ky hyk).1.symm, ((ih y hy) ky hyk).2⟩
  by_cases h34 : x.1.1 = 3 ∨ x.1.1 = 4
  · have hv1 : v.1 = 1 := by rcases h34 with h | h <;> rw [h] at hw <;> injection hw with hw <;> rw [← hw]
    obtain ⟨u, hu⟩ : ∃ u, toL x.2 = [u] := by
      have : (toL x.2).length = 1 := by omega
      match toL x.2, this with
      | [u], _ => exact ⟨u, rfl⟩
    rw [hu, List.map_cons, List.map_nil] at he ht
    rw [erL_one] at he
    have hc := takes1 ht
    obtain ⟨hr, hvf⟩ := sub u (by rw [hu]; simp) (kdT (pairP C K) u).1 (Prod.ext rfl he)
    rw [evT_one h34 hu, rfT_one h1 h2 hu, hr]
    rcases h34 with h | h
    · rw [h] at hw ⊢
      injection hw with hw
      subst hw
      rw [show (kdT (pairP C K) u).1 = 1 from by simpa using hc] at hvf
      rw [hkv]
      exact ag_neg hvf
    · rw [h] at hw ⊢
      injection hw with hw
      subst hw
      rw [show (kdT (pairP C K) u).1 = 3 from by simpa using hc] at hvf
      rw [hkv]
      exact ag_not hvf
  have hv2 : v.1 = 2 := by
    rcases (show x.1.1 = 5 ∨ x.1.1 = 6 ∨ x.1.1 = 7 ∨ x.1.1 = 8 ∨ x.1.1 = 9 ∨ x.1.1 = 10 ∨ x.1.1 = 11 ∨ x.1.1 = 12 ∨ x.1.1 = 13 ∨ x.1.1 = 14 ∨ x.1.1 = 15 by omega) with h | h | h | h | h | h | h | h | h | h | h <;> rw [h] at hw <;> injection hw with hw <;> rw [← hw]
  obtain ⟨u, w, hu⟩ : ∃ u w, toL x.2 = [u, w] := by
    have : (toL x.2).length = 2 := by omega
    match toL x.2, this with
    | [u, w], _ => exact ⟨u, w, rfl⟩
  rw [hu, List.map_cons, List.map_cons, List.map_nil] at he ht
  rw [erL_two] at he
  have he0 : (kdT (pairP C K) u).2 = 0 := by
    by_cases h : (kdT (pairP C K) u).2 = 0
    · exact h
    · rw [if_neg h] at he; exact he
  rw [if_pos he0] at he
  obtain ⟨hsame, hc⟩ := takes2 ht
  obtain ⟨hr0, hvf0⟩ := sub u (by rw [hu]; simp) (kdT (pairP C K) u).1 (Prod.ext rfl he0)
  obtain ⟨hr1, hvf1⟩ := sub w (by rw [hu]; simp) (kdT (pairP C K) u).1 (Prod.ext hsame he)
  rw [rfT_two h1 h2 hu, hr0, hr1]
  generalize (kdT (pairP C K) u).1 = ku at *
  by_cases h14 : x.1.1 = 14
  · rw [evT_and hu h14]
    rw [h14] at hw ⊢
    injection hw with hw
    subst hw
    obtain rfl : ku = 3 := by simpa using hc
    rw [hkv]
    exact ag_up (.inl ⟨rfl, rfl⟩) hvf0 hvf1
  by_cases h15 : x.1.1 = 15
  · rw [evT_or hu h15]
    rw [h15] at hw ⊢
    injection hw with hw
    subst hw
    obtain rfl : ku = 3 := by simpa using hc
    rw [hkv]
    exact ag_up (.inr ⟨rfl, rfl⟩) hvf0 hvf1
  rw [evT_two (by omega) hu]
  by_cases hnum : x.1.1 = 5 ∨ x.1.1 = 6 ∨ x.1.1 = 7
  · have hw1 : v.2 = ([1], 1) := by rcases hnum with h | h | h <;> rw [h] at hw <;> injection hw with hw <;> rw [← hw]
    rw [hw1] at hc hkv
    obtain rfl : ku = 1 := by simpa using hc
    rw [hkv]
    exact ag_two (by omega) (by omega) h14 h15 (fun ha hb => ag_num hnum ha hb) hvf0 hvf1
  · have hw1 : v.2 = ([1, 2], 3) := by
      rcases (show x.1.1 = 8 ∨ x.1.1 = 9 ∨ x.1.1 = 10 ∨ x.1.1 = 11 ∨ x.1.1 = 12 ∨ x.1.1 = 13 by omega) with h | h | h | h | h | h <;> rw [h] at hw <;> injection hw with hw <;> rw [← hw]
    rw [hw1] at hc hkv
    have hku : ku = 1 ∨ ku = 2 := by simpa using hc
    rw [hkv]
    exact ag_two (by omega) (by omega) h14 h15 (fun ha hb => ag_cmp (by omega) hku ha hb) hvf0 hvf1
theorem ag_all {C : List It} {K : List Int} {V : List Vt} (hCV : C.length = V.length) (hCK : K.length = C.length) (hKV : ∀ i (h1 : i < K.length) (h2 : i < V.length), VF K[i] V[i]) : ∀ f : Tg, lfF f → ∀ x ∈ toL f, AgC C K V x := by
  intro f
  induction f with
  | nil => intro _ x hx; simp [toL] at hx
  | node a b p l r ihl ihr =>
    rintro ⟨⟨h1, h2⟩, h3⟩ x hx
    rw [toL, List.mem_cons] at hx
    rcases hx with rfl | hx
    · exact ag_step hCV hCK hKV (p, l) h1 (ihl h2)
    · exact ihr h3 x hx
/-- What fits its columns comes to what the document says. -/
theorem ag_any {C : List It} {K : List Int} {V : List Vt} (hCV : C.length = V.length) (hCK : K.length = C.length) (hKV : ∀ i (h1 : i < K.length) (h2 : i < V.length), VF K[i] V[i]) (x : Pg × Tg) (hl : lfT x) : AgC C K V x := ag_step hCV hCK hKV x hl.1 (ag_all hCV hCK hKV x.2 hl.2)
theorem evE_nz (C : List It) (V : List Vt) (x : Pg × Tg) : evE C V x = nz (evT C V x) := rfl
end Go.Proofs.Ytbmfehacnigknaa
namespace Go.Proofs.Ytbmfehacnigknaa
open Go.RowKit
set_option linter.unusedVariables false
set_option linter.unusedSimpArgs false

theorem SlF.nil (Q : Nat → Prop) (w : World) : SlF Q w none 0 0 .nil := ⟨rfl, Nat.le_refl _, by omega, fun h => absurd h (Nat.lt_irrefl _)⟩
/-- Rows of one, of two expressions, as forests. -/
theorem slF1 {w : World} {b : Nat} {p : Pg} {l : Tg} {ea : Option Addr} {en ec : Nat} (h : Ce w b 0 p.1 p.2 (.slice ea en ec)) (hs : SlF (fun _ => True) w ea en ec l) : SlF (fun _ => True) w (some ⟨b, 0, none⟩) 1 1 (.node 0 0 p l .nil) :=
  ⟨rfl, Nat.le_refl _, by omega, fun _ => ⟨b, 0, rfl, trivial, ⟨ea, en, ec, h, hs⟩, trivial⟩⟩
theorem slF2 {w : World} {b : Nat} {p q : Pg} {l r : Tg} {ea : Option Addr} {en ec : Nat} {fa : Option Addr} {fn fc : Nat} (h : Ce w b 0 p.1 p.2 (.slice ea en ec)) (hs : SlF (fun _ => True) w ea en ec l) (h' : Ce w b 7 q.1 q.2 (.slice fa fn fc)) (hs' : SlF (fun _ => True) w fa fn fc r) : SlF (fun _ => True) w (some ⟨b, 0, none⟩) 2 2 (.node 0 0 p l (.node 0 0 q r .nil)) :=
  ⟨rfl, Nat.le_refl _, by omega, fun _ => ⟨b, 0, rfl, trivial, ⟨ea, en, ec, h, hs⟩, ⟨fa, fn, fc, by simpa using h', hs'⟩, trivial⟩⟩
abbrev nP : Pay := (0, 0, ⟨#[]⟩, ⟨#[]⟩, ⟨#[]⟩)
abbrev litP (k i : Int) : Pg := (1, k, i, ⟨#[]⟩, ⟨#[]⟩, ⟨#[]⟩)
abbrev xEq : Pg × Tg := ((8, nP), .node 0 0 (litP 1 1) .nil (.node 0 0 (litP 1 1) .nil .nil))
abbrev xNot : Pg × Tg := ((4, nP), .node 0 0 (litP 1 1) .nil .nil)
abbrev qSel : Sq := ⟨6, ⟨#[113]⟩, ⟨#[]⟩, [], [], ⟨#[]⟩, [], [], []⟩
abbrev sSel : Sv := ⟨6, ⟨#[113]⟩, ⟨#[]⟩, (none, 0, 0), (none, 0, 0), (none, 0, 0), (none, 0, 0), ⟨#[]⟩, (none, 0, 0), (none, 0, 0), (none, 0, 0), false, (none, 0, 0)⟩
end Go.Proofs.Ytbmfehacnigknaa
namespace Go.Proofs.Ytbmfehacnigknaa
open Go.RowKit
set_option linter.unusedVariables false
set_option linter.unusedSimpArgs false

/-- Two literals, one beside the other, and a way. -/
abbrev litV (v : Vt) : Pg := (1, v.1, v.2.1, v.2.2, ⟨#[]⟩, ⟨#[]⟩)
abbrev xTwo (op : Int) (a b : Vt) : Pg × Tg := ((op, nP), .node 0 0 (litV a) .nil (.node 0 0 (litV b) .nil .nil))
theorem xTwo_in (op : Int) (a b : Vt) (w1 : World) : eG.E (fun _ => True) (w1.alloc (.cells #[.int .i64 1, .int .i64 a.1, .int .i64 a.2.1, .string a.2.2, .string ⟨#[]⟩, .string ⟨#[]⟩, .slice none 0 0, .int .i64 1, .int .i64 b.1, .int .i64 b.2.1, .string b.2.2, .string ⟨#[]⟩, .string ⟨#[]⟩, .slice none 0 0] 41)) (xTwo op a b) [.int .i64 op, .int .i64 0, .int .i64 0, .string ⟨#[]⟩, .string ⟨#[]⟩, .string ⟨#[]⟩, .slice (some ⟨w1.heap.size, 0, none⟩) 2 2] := by
  have hc2 := cell_new w1 #[.int .i64 1, .int .i64 a.1, .int .i64 a.2.1, .string a.2.2, .string ⟨#[]⟩, .string ⟨#[]⟩, .slice none 0 0, .int .i64 1, .int .i64 b.1, .int .i64 b.2.1, .string b.2.2, .string ⟨#[]⟩, .string ⟨#[]⟩, .slice none 0 0] 41 (0, 0)
  exact ⟨_, _, _, rfl, slF2 (p := litV a) (q := litV b) ⟨hc2 0, hc2 1, hc2 2, hc2 3, hc2 4, hc2 5, hc2 6⟩ (SlF.nil _ _) ⟨hc2 7, hc2 8, hc2 9, hc2 10, hc2 11, hc2 12, hc2 13⟩ (SlF.nil _ _)⟩
theorem xTwo_wf {op : Int} (hop : 5 ≤ op ∧ op ≤ 15) {a b : Vt} (ha : Gd a) (hb : Gd b) : wfT (xTwo op a b) := ⟨by show (2 : Int) = partsP op; unfold partsP; rw [if_neg (by omega), if_neg (by omega), if_neg (by omega), if_neg (by omega), if_pos hop], gd_z, ⟨⟨rfl, ha, trivial⟩, ⟨rfl, hb, trivial⟩, trivial⟩⟩
/-- Both Evals of two literals. -/
theorem evTwo_any {op : Int} (hop : 5 ≤ op ∧ op ≤ 15) {a b : Vt} (ha : Gd a) (hb : Gd b) (Q : Nat → Prop) {w : World} {cs : List Value} (hx : eG.E Q w (xTwo op a b) cs) :
    Calls Try.prog 14 #[.slice none 0 0, .slice none 0 0, .agg cs.toArray] w fun en w' => en = .returned (.tuple #[vV (evE [] [] (xTwo op a b)).1, .int .i64 (evE [] [] (xTwo op a b)).2]) ∧ Below w.heap.size w w' :=
  evalV_any (by simp) rfl (fun v hv => by simp at hv) _ (wf_ft (xTwo_wf hop ha hb)) (evT_gd (fun v hv => by simp at hv) gd_z).2 (RowIs.nil _ _ _) (RowIs.nil _ _ _) hx
theorem begun_plain : evE [] [] (xTwo 5 (1, 1, ⟨#[]⟩) (1, 1, ⟨#[]⟩)) = ((1, 2, ⟨#[]⟩), 0) := by decide +kernel
set_option maxRecDepth 100000 in
set_option maxHeartbeats 4000000 in
theorem begun11_any (w : World) : Calls Try.prog 8 #[] w fun e w' => e = .returned (.bool true) ∧ Below w.heap.size w w' := by
  have hw := bal (Below.refl w.heap.size w) (.cells #[.int .i64 1, .int .i64 1, .int .i64 1, .string ⟨#[]⟩, .string ⟨#[]⟩, .string ⟨#[]⟩, .slice none 0 0] 41)
  have bx := Bk.new w (.cells #[.int .i64 1, .int .i64 1, .int .i64 1, .string ⟨#[]⟩, .string ⟨#[]⟩, .string ⟨#[]⟩, .slice none 0 0] 41)
  have HK1 : Hid (∀ w1 : World, Calls Try.prog 14 #[.slice none 0 0, .slice none 0 0, .agg #[.int .i64 5, .int .i64 0, .int .i64 0, .string ⟨#[]⟩, .string ⟨#[]⟩, .string ⟨#[]⟩, .slice (some ⟨w1.heap.size, 0, none⟩) 2 2]] (w1.alloc (.cells #[.int .i64 1, .int .i64 1, .int .i64 1, .string ⟨#[]⟩, .string ⟨#[]⟩, .string ⟨#[]⟩, .slice none 0 0, .int .i64 1, .int .i64 1, .int .i64 1, .string ⟨#[]⟩, .string ⟨#[]⟩, .string ⟨#[]⟩, .slice none 0 0] 41)) fun en w' => en = .returned (.tuple #[vV (1, 2, ⟨#[]⟩), .int .i64 0]) ∧ Below (w1.alloc (.cells #[.int .i64 1, .int .i64 1, .int .i64 1, .string ⟨#[]⟩, .string ⟨#[]⟩, .string ⟨#[]⟩, .slice none 0 0, .int .i64 1, .int .i64 1, .int .i64 1, .string ⟨#[]⟩, .string ⟨#[]⟩, .string ⟨#[]⟩, .slice none 0 0] 41)).heap.size (w1.alloc (.cells #[.int .i64 1, .int .i64 1, .int .i64 1, .string ⟨#[]⟩, .string ⟨#[]⟩, .string ⟨#[]⟩, .slice none 0 0, .int .i64 1, .int .i64 1, .int .i64 1, .string ⟨#[]⟩, .string ⟨#[]⟩, .string ⟨#[]⟩, .slice none 0 0] 41)) w') := hid fun w1 => by
    have h := evTwo_any (op := 5) (by decide) (a := (1, 1, ⟨#[]⟩)) (b := (1, 1, ⟨#[]⟩)) ⟨by decide, by decide⟩ ⟨by decide, by decide⟩ _ (xTwo_in 5 (1, 1, ⟨#[]⟩) (1, 1, ⟨#[]⟩) w1)
    rw [begun_plain] at h
    exact h
  have HN : Hid _ := hid holdsNil_any
  go_enter Try.func8, Try.ntmps8
  go_upto_region 2 with fail
  generalize w.alloc (.cells #[.int .i64 1, .int .i64 1, .int .i64 1, .string ⟨#[]⟩, .string ⟨#[]⟩, .string ⟨#[]⟩, .slice none 0 0] 41) = W at *
  have d0 := bx.cell 0
  have d1 := bx.cell 1
  have d2 := bx.cell 2
  have d3 := bx.cell 3
  have d4 := bx.cell 4
  have d5 := bx.cell 5
  have d6 := bx.cell 6
  simp only [List.getElem?_toArray, List.getElem?_cons_zero, List.getElem?_cons_succ] at d0 d1 d2 d3 d4 d5 d6
  clear bx
  go_wp2_with fail
  refine Calls.mono (HK1.out _) ?_
  rintro e w2 ⟨rfl, hb2⟩
  have hB2 := bal (Below.on hw (Below.on (bal (Below.refl _ W) _) hb2)) (.cells #[.int .i64 1, .int .i64 2, .string ⟨#[]⟩] 38)
  have by0 := Bk.new w2 (.cells #[.int .i64 1, .int .i64 2, .string ⟨#[]⟩] 38)
  clear hb2 HK1 d0 d1 d2 d3 d4 d5 d6
  go_upto_region 3 with fail
  generalize w2.alloc (.cells #[.int .i64 1, .int .i64 2, .string ⟨#[]⟩] 38) = W2 at *
  have y0 := by0.cell 0
  have y1 := by0.cell 1
  simp only [List.getElem?_toArray, List.getElem?_cons_zero, List.getElem?_cons_succ] at y0 y1
  clear by0
  go_wp2_with fail
  refine Calls.mono (HN.out _) ?_
  rintro e w3 ⟨rfl, hb3⟩
  have hB3 := Below.on hB2 hb3
  replace y0 := cell_later hb3 y0
  replace y1 := cell_later hb3 y1
  clear HN hb3 hB2
  go_wp2
  go_ret
  exact ⟨rfl, hB3⟩

theorem runV_eq (k i : Int) (s : ByteArray) (w : World) :
    (binOp .eql 38 (.agg #[.int .i64 k, .int .i64 i, .string s]) (.agg #[.int .i64 k, .int .i64 i, .string s])).run Try.prog w = .ok (.bool true) w := by
  go_simp
theorem wrapK {K : Int} (h0 : 0 ≤ K) (h1 : K ≤ 1000) : IntKind.i64.wrap K = K := by
  show (if (true && decide (K % (2 ^ 64 : Int) ≥ (2 ^ (64 - 1) : Int))) = true then K % (2 ^ 64 : Int) - (2 ^ 64 : Int) else K % (2 ^ 64 : Int)) = _
  rw [if_neg (by simp; omega)]
  omega
end Go.Proofs.Ytbmfehacnigknaa
