import Derived.Test.YtmfoenhbldacfaaQas
/- A record out of a page, a record into one. -/
namespace Go.Proofs.Ytmfoenhbldacfaa
open Go.RowKit
set_option linter.unusedVariables false
set_option linter.unusedSimpArgs false

theorem nh_cells {A : Array Value} {t : TypeId} (h1 : t ≠ 46) (h2 : t ≠ 66) (h3 : t ≠ 69) : ¬ Hy (.cells A t (0, 0)) := by
  rintro (⟨A', e⟩ | ⟨es, c, e⟩ | ⟨A', e⟩ | ⟨A', e⟩)
  · exact ty_ne h1 e
  · cases e
  · exact ty_ne h2 e
  · exact ty_ne h3 e
/-- A block of the call's own does not count. -/
theorem Ft.fresh {B : Nat} {X : Nat → Prop} {w w0 w' : World} (h0 : Below w.heap.size w w0) (h : Ft B X w0 w') (hX : ∀ k, X k → w.heap.size ≤ k) : Ft B noX w w' :=
  ⟨h.os.trans h0.os, h.tape.trans h0.tape, h.output.trans h0.output, Nat.le_trans h0.size h.size, fun k o e _ hk => by
    have hl := (Array.getElem?_eq_some_iff.1 e).1
    exact h.block k o (by rw [h0.block k hl]; exact e) (fun hx => by have := hX k hx; omega) hk⟩

set_option maxRecDepth 100000 in
set_option maxHeartbeats 2000000 in
theorem drop1_any {w : World} {g q : Nat} {Bt : List Int} {R : Rc} {n : Int} {s : Nat} (hP : Pi w g Bt R allP) (hs : rc R s ≠ []) (hq : w.heap[q]? = some (.cells #[.int .i64 n, .int .i64 (s : Int)] 57 (0, 0))) :
    Calls Try.prog 33 #[.pointer (some ⟨g, 0, none⟩), .pointer (some ⟨q, 0, none⟩)] w fun e w2 => e = .returned (.tuple #[]) ∧ (∃ Bt', Pi w2 g Bt' (trimR (R.set s [])) allP) ∧ w2.heap[q]? = some (.cells #[.int .i64 n, .int .i64 (s : Int)] 57 (0, 0)) ∧ Rx g q w w2 := by
  have HD : Hid _ := drop_any hP s hs
  have c1 : w.cell? ⟨q, 1, none⟩ = some (.int .i64 (s : Int)) := cell_of_row _ _ _ _ _ _ hq
  have hne : q ≠ g := ob_ne hq hP.pg.row (ty_ne (by decide))
  replace hq : Hid _ := hq
  clear hP hs
  go_enter Try.func33, Try.ntmps33
  go_wp2_with fail
  refine Calls.mono HD.out ?_
  rintro e w2 ⟨rfl, hp2, hr⟩
  have hq2 : w2.heap[q]? = some (.cells #[.int .i64 n, .int .i64 (s : Int)] 57 (0, 0)) := by
    rw [hr.block q (Array.getElem?_eq_some_iff.1 hq.out).1 hne]; exact hq.out
  have hx : Rx g q w w2 := ⟨hr.os, hr.tape, hr.output, hr.size, fun k h1 h2 _ => hr.block k h1 h2⟩
  clear HD hr
  go_wp2
  exact bodyPost_end (results_none rfl _ _ _) rfl ⟨rfl, hp2, hq2, hx⟩

set_option maxRecDepth 100000 in
set_option maxHeartbeats 2000000 in
theorem hdrop_any {B : Nat} {w : World} {H : Hs} (h : HI B w H) (hp : HP H none) {n : Int} {g s : Nat} {R : Rc} (hn : (n, (g, R)) ∈ H.G) (hs : rc R s ≠ []) (hl : H.G.length ≤ 900) :
    Calls Try.prog 21 #[.pointer (some ⟨H.hb, 0, none⟩), .agg #[.int .i64 n, .int .i64 (s : Int)]] w fun e w' => e = .returned (.tuple #[]) ∧ (∃ v, HI B w' { H with fv := v, G := chG H.G n g (trimR (R.set s [])), F := chF H.F n R (trimR (R.set s [])) }) ∧ Ft B noX w w' := by
  have hb0 : Below w.heap.size w (w.alloc (.cells #[.int .i64 n, .int .i64 (s : Int)] 57)) := (Below.refl _ _).alloc (Nat.le_refl _) _
  have hx : (w.alloc (.cells #[.int .i64 n, .int .i64 (s : Int)] 57)).heap[w.heap.size]? = some (.cells #[.int .i64 n, .int .i64 (s : Int)] 57 (0, 0)) := heap_alloc_last w _
  have HC := change_any (h.later hb0) (hp.exempt (some n)) hn (trimR_tm (R.set s [])) hl (N := 33) (caps := #[.pointer (some ⟨w.heap.size, 0, none⟩)]) (by intro args w'; kernel_rfl) hx (nh_cells (by decide) (by decide) (by decide))
    (fun w1 Bt k1 k2 k3 => drop1_any k2 hs k3) (nh_cells (by decide) (by decide) (by decide))
  replace HC : Hid _ := HC
  have k0 : (w.alloc (.cells #[.int .i64 n, .int .i64 (s : Int)] 57)).cell? ⟨w.heap.size, 0, none⟩ = some (.int .i64 n) := cell_of_row _ _ _ _ _ _ hx
  clear h hp hn hs hx
  go_enter Try.func21, Try.ntmps21
  go_wp2_with fail
  refine Calls.mono HC.out ?_
  rintro e w2 ⟨rfl, hI, hft, _⟩
  have hft2 := hft.fresh hb0 (fun k e => by rw [e]; exact Nat.le_refl _)
  clear HC hft
  go_wp2
  exact bodyPost_end (results_none rfl _ _ _) rfl ⟨rfl, hI, hft2⟩

end Go.Proofs.Ytmfoenhbldacfaa
/- A record into a heap. -/
namespace Go.Proofs.Ytmfoenhbldacfaa
open Go.RowKit
set_option linter.unusedVariables false
set_option linter.unusedSimpArgs false

set_option maxRecDepth 100000 in
set_option maxHeartbeats 2000000 in
theorem lay1_any {w : World} {g q1 q2 : Nat} {Bt : List Int} {R : Rc} {n : Int} {ao : Option Addr} {c : Nat} {b : List Int} (hP : Pi w g Bt R allP) (hb : Rd .u8 w ao b.length c b) (hby : By b) (he : layE R (vac R) b = 0) (hao : ∀ a, ao = some a → a.block ≠ g)
    (hq1 : w.heap[q1]? = some (.cells #[.slice ao b.length c] 31 (0, 0))) (hq2 : w.heap[q2]? = some (.cells #[.int .i64 n, .int .i64 0] 57 (0, 0))) :
    Calls Try.prog 36 #[.pointer (some ⟨g, 0, none⟩), .pointer (some ⟨q1, 0, none⟩), .pointer (some ⟨q2, 0, none⟩)] w fun e w2 => e = .returned (.tuple #[]) ∧ (∃ Bt', Pi w2 g Bt' (setR R (vac R) b) allP) ∧ w2.heap[q2]? = some (.cells #[.int .i64 n, .int .i64 (vac R : Int)] 57 (0, 0)) ∧ Rx g q2 w w2 := by
  have HD := put_any hP hb hby hao
  have hS : putS R b = (vac R : Int) := by rw [putS, if_pos he]
  have hL : layR R (vac R) b = setR R (vac R) b := if_pos he
  rw [hS, he, hL] at HD
  obtain ⟨V, hV⟩ : ∃ V : Int, (vac R : Int) = V := ⟨_, rfl⟩
  rw [hV] at HD ⊢
  replace HD : Hid _ := HD
  have c1 : w.cell? ⟨q1, 0, none⟩ = some (.slice ao b.length c) := cell_of_row _ _ _ _ _ _ hq1
  have hne : q2 ≠ g := ob_ne hq2 hP.pg.row (ty_ne (by decide))
  replace hq2 : Hid _ := hq2
  replace hV : Hid _ := hV
  clear hP hq1 hS hL he hb
  go_enter Try.func36, Try.ntmps36
  go_wp2_with fail
  refine Calls.mono HD.out ?_
  rintro e w2 ⟨rfl, ⟨Bt', hP2⟩, hr⟩
  have hq3 : w2.heap[q2]? = some (.cells #[.int .i64 n, .int .i64 0] 57 (0, 0)) := by
    rw [hr.block q2 (Array.getElem?_eq_some_iff.1 hq2.out).1 hne]; exact hq2.out
  have d1 : w2.cell? ⟨q2, 1, none⟩ = some (.int .i64 0) := cell_of_row _ _ _ _ _ _ hq3
  have f1 : w2.frozen? ⟨q2, 1, none⟩ = false := by unfold World.frozen?; rw [hq3]; rfl
  have hq4 : (w2.setCell ⟨q2, 1, none⟩ (.int .i64 V)).heap[q2]? = some (.cells #[.int .i64 n, .int .i64 V] 57 (0, 0)) := by
    simp [World.setCell, Array.getElem?_modify, hq3]
  have hx : Rx g q2 w (w2.setCell ⟨q2, 1, none⟩ (.int .i64 V)) := ⟨hr.os, hr.tape, hr.output, by simp [World.setCell]; exact hr.size, fun k h1 h2 h3 => by rw [Below.heap_setCell _ _ _ _ h3]; exact hr.block k h1 h2⟩
  have hP3 : Pi (w2.setCell ⟨q2, 1, none⟩ (.int .i64 V)) g Bt' (setR R (vac R) b) allP := ⟨⟨by rw [Below.heap_setCell _ _ _ _ (Ne.symm hne)]; exact hP2.pg.row⟩, hP2.iv⟩
  clear HD hr hq3 hP2 hq2
  go_wp2
  exact bodyPost_end (results_none rfl _ _ _) rfl ⟨rfl, ⟨_, hP3⟩, hq4, hx⟩

/-- What lay makes of a heap. -/
def Lay (H H' : Hs) (id : Int) (b : List Int) : Prop := ∃ n g R, H'.P = up H.P id (n, vac R) ∧ (∀ m, lk H'.G m = if m = n then some (g, setR R (vac R) b) else lk H.G m) ∧ (lk H.G n = some (g, R) ∨ (lk H.G n = none ∧ R = [])) ∧ H'.hb = H.hb ∧ H'.nx ≤ H.nx + 1 ∧ H'.G.length ≤ H.G.length + 1

set_option maxRecDepth 100000 in
set_option maxHeartbeats 4000000 in
theorem lay_heap {B : Nat} {w : World} {H : Hs} (h : HI B w H) (hp : HP H none) (id : Int) {ao : Option Addr} {c : Nat} {b : List Int} (hb : Rd .u8 w ao b.length c b) (hby : By b) (h0 : b ≠ []) (h2 : b.length ≤ 200)
    (hao : ∀ a, ao = some a → ∃ A, w.heap[a.block]? = some (.cells A 5 (0, 0))) (hl : H.G.length ≤ 800) (hnx : H.nx ≤ 1000000) :
    Calls Try.prog 22 #[.pointer (some ⟨H.hb, 0, none⟩), .int .u64 id, .slice ao b.length c] w fun e w' => e = .returned (.tuple #[]) ∧ ∃ H', HI B w' H' ∧ HP H' none ∧ Ft B noX w w' ∧ Lay H H' id b := by
  have hb0 : Below w.heap.size w (w.alloc (.cells #[.slice ao b.length c] 31)) := (Below.refl _ _).alloc (Nat.le_refl _) _
  have hq1 : (w.alloc (.cells #[.slice ao b.length c] 31)).heap[w.heap.size]? = some (.cells #[.slice ao b.length c] 31 (0, 0)) := heap_alloc_last w _
  have k0 : (w.alloc (.cells #[.slice ao b.length c] 31)).cell? ⟨w.heap.size, 0, none⟩ = some (.slice ao b.length c) := cell_of_row _ _ _ _ _ _ hq1
  have HR : Hid _ := roomy_any (h.later hb0) hp h2 hl hnx
  have HC : Hid (∀ w1 n H1 g R, Rmy B (w.alloc (.cells #[.slice ao b.length c] 31)) H b.length w1 n H1 g R → Calls Try.prog 32 #[.pointer (some ⟨H.hb, 0, none⟩), .int .i64 n, .func (.func 36) #[] #[.pointer (some ⟨w.heap.size, 0, none⟩), .pointer (some ⟨w1.heap.size, 0, none⟩)]] (w1.alloc (.cells #[.int .i64 n, .int .i64 0] 57)) fun e w' => e = .returned (.tuple #[]) ∧ (∃ v, HI B w' { H1 with fv := v, G := chG H1.G n g (setR R (vac R) b), F := chF H1.F n R (setR R (vac R) b) }) ∧ Ft B noX w w' ∧ w'.heap[w1.heap.size]? = some (.cells #[.int .i64 n, .int .i64 (vac R : Int)] 57 (0, 0))) := fun w1 n H1 g R hR => by
    have hb1 : Below w1.heap.size w1 (w1.alloc (.cells #[.int .i64 n, .int .i64 0] 57)) := (Below.refl _ _).alloc (Nat.le_refl _) _
    have hx1 : (w1.alloc (.cells #[.int .i64 n, .int .i64 0] 57)).heap[w1.heap.size]? = some (.cells #[.int .i64 n, .int .i64 0] 57 (0, 0)) := heap_alloc_last w1 _
    have hft1 : Ft B noX w (w1.alloc (.cells #[.int .i64 n, .int .i64 0] 57)) := (Ft.of hb0).trans (hR.ft.trans (Ft.of hb1))
    have hq1' : (w1.alloc (.cells #[.int .i64 n, .int .i64 0] 57)).heap[w.heap.size]? = some (.cells #[.slice ao b.length c] 31 (0, 0)) := (hR.ft.trans (Ft.of hb1)).x hq1 (nh_cells (by decide) (by decide) (by decide))
    have hle := layE_fit h0 h2 hR.room
    have hT' := setR_tm (hR.hp.tm _ _ _ hR.mem) (vac_le R) h0
    have HC := change_any (hR.hi.later hb1) hR.hp hR.mem hT' (by have := hR.len; omega) (N := 36) (caps := #[.pointer (some ⟨w.heap.size, 0, none⟩), .pointer (some ⟨w1.heap.size, 0, none⟩)]) (by intro args w'; kernel_rfl) hx1 (nh_cells (by decide) (by decide) (by decide))
      (fun w2 Bt k1 k2 k3 => by
        have hw2 := hft1.trans k1
        have hrd : Rd .u8 w2 ao b.length c b := ⟨hb.len, hb.cap, hb.max, hb.non, fun hn => by
          obtain ⟨bb, o, ha, hc⟩ := hb.cells hn
          obtain ⟨A, hA⟩ := hao _ ha
          refine ⟨bb, o, ha, fun i hi => ?_⟩
          have := hw2.x hA (nh_cells (by decide) (by decide) (by decide))
          rw [World.cell?_of_block (a := ⟨bb, o + i, none⟩) (this.trans hA.symm)]
          exact hc i hi⟩
        exact lay1_any k2 hrd hby hle (fun a ha => by
          obtain ⟨A, hA⟩ := hao a ha
          exact ob_ne (hw2.x hA (nh_cells (by decide) (by decide) (by decide))) k2.pg.row (ty_ne (by decide))) (k1.x hq1' (nh_cells (by decide) (by decide) (by decide))) k3)
      (nh_cells (by decide) (by decide) (by decide))
    rw [← hR.hb]
    refine Calls.mono HC ?_
    rintro e w' ⟨rfl, j1, j2, j3⟩
    exact ⟨rfl, j1, ((Ft.of hb0).trans hR.ft).trans (j2.fresh hb1 (fun k e => by rw [e]; exact Nat.le_refl _)), j3⟩
  -- what it is at the end
  have HE : Hid (∀ w1 n H1 g R, Rmy B (w.alloc (.cells #[.slice ao b.length c] 31)) H b.length w1 n H1 g R → ∀ pm v nP, nP = up H.P id (n, vac R) → HP { H1 with pm := pm, P := nP, fv := v, G := chG H1.G n g (setR R (vac R) b), F := chF H1.F n R (setR R (vac R) b) } none ∧ Lay H { H1 with pm := pm, P := nP, fv := v, G := chG H1.G n g (setR R (vac R) b), F := chF H1.F n R (setR R (vac R) b) } id b) := fun w1 n H1 g R hR pm v nP hnP => by
    have hne : setR R (vac R) b ≠ [] := by
      intro e
      have := congrArg List.length e
      rw [setR_len (vac_le R)] at this
      simp at this
    have hT' := setR_tm (hR.hp.tm _ _ _ hR.mem) (vac_le R) h0
    have hP := hR.hp.change (fv := v) hR.hi.kg hR.mem hT'
    refine ⟨⟨hP.rng, hP.tm, hP.ne, hP.srt, hP.fre, hP.fre'⟩, n, g, R, hnP, fun m => ?_, hR.old, hR.hb, hR.nx, ?_⟩
    · show lk (chG H1.G n g (setR R (vac R) b)) m = _
      rw [chG, if_neg hne, lk_up]
      by_cases e : m = n
      · rw [if_pos e, if_pos e]
      · rw [if_neg e, if_neg e, hR.oth m e]
    · show (chG H1.G n g (setR R (vac R) b)).length ≤ _
      rw [chG, if_neg hne, len_up, if_pos (mem_key hR.mem)]
      exact hR.len
  obtain ⟨L, hL⟩ : ∃ L, b.length = L := ⟨_, rfl⟩
  have hbb : Hid _ := hb
  rw [hL] at HR HC HE k0 ⊢
  replace hL : Hid _ := hL
  replace h0 : Hid _ := h0
  clear h hp hao hby hb hq1 h2
  go_enter Try.func22, Try.ntmps22
  go_wp2_with fail
  refine Calls.mono HR.out ?_
  rintro e w1 ⟨n, H1, g, R, rfl, hR⟩
  have HC1 : Hid _ := HC.out w1 n H1 g R hR
  have HE1 : Hid _ := HE.out w1 n H1 g R hR
  have hR1 : Hid _ := hR
  clear HR HC HE hR
  go_wp2_with fail
  refine Calls.mono HC1.out ?_
  rintro e w2 ⟨rfl, ⟨v, hI⟩, hft, hq2⟩
  clear HC1
  obtain ⟨G2, hG2⟩ : ∃ x, chG H1.G n g (setR R (vac R) b) = x := ⟨_, rfl⟩
  obtain ⟨F2, hF2⟩ : ∃ x, chF H1.F n R (setR R (vac R) b) = x := ⟨_, rfl⟩
  rw [hG2, hF2] at hI HE1
  clear hG2 hF2
  have hhb : H1.hb = H.hb := hR1.out.hb
  have hpl : H1.P = H.P := hR1.out.pl
  have hk : ∀ {α : Type} (f : α), f = f := fun _ => rfl
  have hnd : (ks (up H.P id (n, vac R))).Nodup := by
    have := up_nodup hI.kp id (n, vac R)
    have e : ({ H1 with fv := v, G := G2, F := F2 } : Hs).P = H.P := hpl
    rw [e] at this
    exact this
  have hlt : H.hb < w2.heap.size := by rw [← hhb]; exact hI.lt
  have d0 : w2.cell? ⟨w1.heap.size, 0, none⟩ = some (.int .i64 n) := cell_of_row _ _ _ _ _ _ hq2
  have d1 : w2.cell? ⟨w1.heap.size, 1, none⟩ = some (.int .i64 (vac R : Int)) := cell_of_row _ _ _ _ _ _ hq2
  have hq2lt := (Array.getElem?_eq_some_iff.1 hq2).1
  obtain ⟨q2, hq2e⟩ : ∃ q, w1.heap.size = q := ⟨_, rfl⟩
  rw [hq2e] at d0 d1 hq2 hq2lt ⊢
  replace hq2e : Hid _ := hq2e
  have E1 := pm_some
  have E2 := pm_none
  have E3 := mkP
  cases hpm : H1.pm with
  | some pb =>
    have c0 : w2.cell? ⟨H.hb, 0, none⟩ = some (.map (some pb)) := by rw [← hhb, ← hpm]; exact hI.cells.1
    have hId : HI B w2.drew { H1 with fv := v, G := G2, F := F2 } := hI.later (Below.refl _ _).drew
    obtain ⟨hB, hM⟩ := hId.pmap (b := pb) hpm
    have hM' : MapB w2.drew pb .u64 plV H.P := by rw [← hpl]; exact hM
    obtain ⟨w5, r1, r2, r3⟩ := hM'.store Try.underlying42 Try.underlying28 id (n, vac R)
    obtain ⟨k1, k2⟩ := hId.places (b := pb) hpm r3 r2 hnd
    obtain ⟨k3, k4⟩ := HE1.out H1.pm v (up H.P id (n, vac R)) rfl
    have hfin := hft.trans ((Ft.of (w' := w2.drew) (Below.refl _ _).drew).trans k2)
    rw [show plV (n, vac R) = .agg #[.int .i64 n, .int .i64 (vac R : Int)] from rfl] at r1
    generalize (vac R : Int) = V at *
    clear hI hId hM hM' r2 r3 HE1 k2 hft hhb hpl hq2
    replace k1 : Hid _ := k1
    replace k3 : Hid _ := k3
    replace k4 : Hid _ := k4
    go_upto_region 5 with fail
    go_region_with (fail)
    all_goals exact bodyPost_end (results_none rfl _ _ _) rfl ⟨rfl, _, k1.out, k3.out, hfin, k4.out⟩
  | none =>
    have c0 : w2.cell? ⟨H.hb, 0, none⟩ = some (.map none) := by rw [← hhb]; exact (hI.cells.1).trans (congrArg (fun x => some (Value.map x)) hpm)
    have f0 : w2.frozen? ⟨H.hb, 0, none⟩ = false := by rw [← hhb]; exact hI.frozen 0
    have hb3 : Below w2.heap.size w2 (w2.alloc (.map #[] 0)) := (Below.refl _ _).alloc (Nat.le_refl _) _
    have hN := hI.newP hpm
    have hft3 : Ft B noX w2 ((w2.alloc (.map #[] 0)).setCell ⟨H1.hb, 0, none⟩ (.map (some w2.heap.size))) := (Ft.of hb3).trans ((hI.later hb3).setc 0 _)
    have hcomm : (w2.alloc (.map #[] 0)).setCell ⟨H1.hb, 0, none⟩ (.map (some w2.heap.size)) = (w2.setCell ⟨H1.hb, 0, none⟩ (.map (some w2.heap.size))).alloc (.map #[] 0) := by
      rw [hhb]; simp [go_sem, hlt]
    have d3 : ((w2.alloc (.map #[] 0)).setCell ⟨H1.hb, 0, none⟩ (.map (some w2.heap.size))).cell? ⟨q2, 0, none⟩ = some (.int .i64 n) := by
      have e := hft3.x hq2 (nh_cells (by decide) (by decide) (by decide))
      exact cell_of_row _ _ _ _ _ _ e
    have d4 : ((w2.alloc (.map #[] 0)).setCell ⟨H1.hb, 0, none⟩ (.map (some w2.heap.size))).cell? ⟨q2, 1, none⟩ = some (.int .i64 (vac R : Int)) := by
      have e := hft3.x hq2 (nh_cells (by decide) (by decide) (by decide))
      exact cell_of_row _ _ _ _ _ _ e
    have c3 : ((w2.alloc (.map #[] 0)).setCell ⟨H1.hb, 0, none⟩ (.map (some w2.heap.size))).cell? ⟨H.hb, 0, none⟩ = some (.map (some w2.heap.size)) := by rw [← hhb]; exact hN.cells.1
    obtain ⟨W, hW⟩ : ∃ W, (w2.alloc (.map #[] 0)).setCell ⟨H1.hb, 0, none⟩ (.map (some w2.heap.size)) = W := ⟨_, rfl⟩
    rw [hW] at hN hft3 hcomm d3 d4 c3
    have hId : HI B W.drew { H1 with pm := some w2.heap.size, fv := v, G := G2, F := F2 } := hN.later (Below.refl _ _).drew
    obtain ⟨hB, hM⟩ := hId.pmap (b := w2.heap.size) rfl
    have hM' : MapB W.drew w2.heap.size .u64 plV H.P := by rw [← hpl]; exact hM
    obtain ⟨w5, r1, r2, r3⟩ := hM'.store Try.underlying42 Try.underlying28 id (n, vac R)
    obtain ⟨k1, k2⟩ := hId.places (b := w2.heap.size) rfl r3 r2 hnd
    obtain ⟨k3, k4⟩ := HE1.out (some w2.heap.size) v (up H.P id (n, vac R)) rfl
    have hfin := hft.trans (hft3.trans ((Ft.of (w' := W.drew) (Below.refl _ _).drew).trans k2))
    rw [show plV (n, vac R) = .agg #[.int .i64 n, .int .i64 (vac R : Int)] from rfl] at r1
    generalize (vac R : Int) = V at *
    rw [hhb] at hcomm
    clear hI hId hM hM' r2 r3 HE1 k2 hft hft3 hhb hpl hq2 hN hW
    replace k1 : Hid _ := k1
    replace k3 : Hid _ := k3
    replace k4 : Hid _ := k4
    go_upto_region 5 with fail
    rw [← hcomm]
    clear hcomm d0 d1 c0 f0
    go_region_with (fail)
    all_goals exact bodyPost_end (results_none rfl _ _ _) rfl ⟨rfl, _, k1.out, k3.out, hfin, k4.out⟩

end Go.Proofs.Ytmfoenhbldacfaa
