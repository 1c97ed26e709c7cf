/- Something is done to a page of a heap. -/
import Derived.Test.YtmfoenhbldacfaaI10
namespace Go.Proofs.Ytmfoenhbldacfaa
open Go.RowKit
set_option linter.unusedVariables false
set_option linter.unusedSimpArgs false

/-- All blocks but g and x stay. -/
structure Rx (g x : Nat) (w w' : World) : Prop where
  os : w'.os = w.os
  tape : w'.tape = w.tape
  output : w'.output = w.output
  size : w.heap.size ≤ w'.heap.size
  block : ∀ k, k < w.heap.size → k ≠ g → k ≠ x → w'.heap[k]? = w.heap[k]?
theorem Rx.ft {B g x : Nat} {w w' : World} {A : Array Value} (h : Rx g x w w') (hg : B ≤ g) (ho : w.heap[g]? = some (.cells A 69 (0, 0))) : Ft B (fun k => k = x) w w' :=
  ⟨h.os, h.tape, h.output, h.size, fun k o e hx hk => by
    rw [h.block k (Array.getElem?_eq_some_iff.1 e).1 (by
      rintro rfl
      rw [ho] at e
      cases e
      rcases hk with hk | hk
      · omega
      · exact hk (.inr (.inr (.inr ⟨_, rfl⟩)))) hx]
    exact e⟩
theorem pt_zero (w : World) : (zeroValue 53).run Try.prog w = .ok (.pointer none) w := by kernel_rfl
theorem pl_zero (w : World) : (zeroValue 57).run Try.prog w = .ok (.agg #[.int .i64 0, .int .i64 0]) w := by kernel_rfl
theorem HI.gmap {B : Nat} {w : World} {H : Hs} (h : HI B w H) {n : Int} {g : Nat} {R : Rc} (hn : (n, (g, R)) ∈ H.G) : ∃ b, H.gm = some b ∧ B ≤ b ∧ MapB w b .i64 ptV H.G ∧ ∀ w', MapB w' b .i64 ptV H.G → (Instr.lookup 43 (.map (some b)) (.int .i64 n) false).run Try.prog w' = .ok (.pointer (some ⟨g, 0, none⟩)) w' := by
  rcases h.gl with ⟨_, e⟩ | ⟨b, k1, k2, k3⟩
  · rw [e] at hn; cases hn
  · refine ⟨b, k1, k2, k3, fun w' k => ?_⟩
    have := k.look Try.underlying43 Try.underlying3 pt_zero n false
    rw [mem_lk h.kg hn] at this
    exact this

theorem unF_len (F : List (Int × Int)) (n : Int) (R : Rc) : (unF F n R).length ≤ F.length := by
  unfold unF
  by_cases h : inG F (gapR R, n)
  · rw [if_pos h]; have := delG_len h; omega
  · rw [if_neg h]; exact Nat.le_refl _
/-- A page less. -/
theorem HI.less {B : Nat} {w w' : World} {H : Hs} (h : HI B w H) {b : Nat} (hb : H.gm = some b) (n : Int) (hr : Rest b w w') (hM : MapB w' b .i64 ptV (dl H.G n)) (hB : B ≤ b) : HI B w' { H with G := dl H.G n } := by
  have hsub : (dl H.G n).Sublist H.G := dl_sub
  have hmo : ∃ es c, w.heap[b]? = some (.map es c) := by
    rcases h.gl with ⟨e, _⟩ | ⟨b', k1, _, k3⟩
    · rw [hb] at e; cases e
    · rw [hb] at k1; cases k1
      obtain ⟨es, c, k4, _⟩ := k3.ex
      exact ⟨es, c, k4⟩
  obtain ⟨es0, c0, hm0⟩ := hmo
  constructor
  · show w'.heap[H.hb]? = _
    rw [hr.block _ h.lt (ob_ne h.hdr hm0 (by intro hh; cases hh))]; exact h.hdr
  · exact h.bh
  · exact h.pl.keep fun k es c _ hk e => hr.block k (Array.getElem?_eq_some_iff.1 e).1 (by rintro rfl; exact h.ne _ hk hb)
  · exact .inr ⟨b, hb, hB, hM⟩
  · exact h.ne
  · exact h.fr.keep fun k A _ e => hr.block k (Array.getElem?_eq_some_iff.1 e).1 (ob_ne e hm0 (by intro hh; cases hh))
  · intro m g' R'' he
    obtain ⟨h1, Bt, h2⟩ := h.pg m g' R'' (hsub.subset he)
    exact ⟨h1, Bt, ⟨⟨by rw [hr.block g' h2.pg.lt (ob_ne h2.pg.row hm0 (by intro hh; cases hh))]; exact h2.pg.row⟩, h2.iv⟩⟩
  · exact h.nd.sublist (hsub.map _)
  · exact dl_nodup h.kg n
  · exact h.kp
  · exact Nat.le_trans h.bw hr.size
theorem Ft.x {B : Nat} {w w' : World} (h : Ft B noX w w') {x : Nat} {o : Obj} (hx : w.heap[x]? = some o) (hy : ¬ Hy o) : w'.heap[x]? = some o := h.block x o hx (fun h => h) (.inr hy)
theorem Ft.wide {B : Nat} {w w' : World} (h : Ft B noX w w') (X : Nat → Prop) : Ft B X w w' := h.more fun i k => k.elim
theorem prs_none {R : Rc} (hT : Tm R) (h : (prI R R.length).length = 0) : R = [] := by
  rcases hT with h0 | h0
  · exact List.eq_nil_of_length_eq_zero h0
  · have hlt := rc_lt h0
    have : R.length - 1 ∈ prs R R.length := prs_mem.2 ⟨by omega, h0⟩
    rw [prI, List.length_map] at h
    rw [List.eq_nil_of_length_eq_zero h] at this
    cases this

set_option maxRecDepth 100000 in
set_option maxHeartbeats 4000000 in
theorem change_any {B : Nat} {w : World} {H : Hs} (h : HI B w H) {n : Int} {g : Nat} {R R' : Rc} (hp : HP H (some n)) (hn : (n, (g, R)) ∈ H.G) (hT : Tm R') (hl : H.G.length ≤ 900)
    {N : Nat} {caps : Array Value} (hcf : ∀ args w', (callFunc N args).run Try.prog w' = .ok (.enter N args) w') {x : Nat} {ox ox' : Obj} (hx : w.heap[x]? = some ox) (hxy : ¬ Hy ox)
    (HF : ∀ w1 Bt, Ft B noX w w1 → Pi w1 g Bt R allP → w1.heap[x]? = some ox → Calls Try.prog N (#[.pointer (some ⟨g, 0, none⟩)] ++ caps) w1 fun e w2 => e = .returned (.tuple #[]) ∧ (∃ Bt', Pi w2 g Bt' R' allP) ∧ w2.heap[x]? = some ox' ∧ Rx g x w1 w2) (hxy' : ¬ Hy ox') :
    Calls Try.prog 32 #[.pointer (some ⟨H.hb, 0, none⟩), .int .i64 n, .func (.func N) #[] caps] w fun e w' => e = .returned (.tuple #[]) ∧ (∃ v, HI B w' { H with fv := v, G := chG H.G n g R', F := chF H.F n R R' }) ∧ Ft B (fun k => k = x) w w' ∧ w'.heap[x]? = some ox' := by
  obtain ⟨mb, hgm, hmb, hM, hlk⟩ := h.gmap hn
  have hlk0 := hlk w hM
  obtain ⟨hBg, Bt, hP⟩ := h.pg n g R hn
  have hTR := hp.tm n g R hn
  have hfew := hp.few h.kg
  have c1 := h.cells.2.1
  rw [hgm] at c1
  have HG : Hid _ := gapOf_any hP hTR n
  have HU : Hid (∀ w1, Below w.heap.size w w1 → Calls Try.prog 53 #[.pointer (some ⟨H.hb, 0, none⟩), .agg #[.int .i64 (gapR R), .int .i64 n]] w1 fun e w' => e = .returned (.tuple #[]) ∧ (∃ v, HI B w' { H with fv := v, F := unF H.F n R }) ∧ Ft B noX w1 w') := fun w1 k => unlist_any (h.later k) hp.srt (by omega) (gapR R) n
  have HC : Hid (∀ w1 w2 v, Below w.heap.size w w1 → HI B w2 { H with fv := v, F := unF H.F n R } → Ft B noX w1 w2 → Calls Try.prog N (#[.pointer (some ⟨g, 0, none⟩)] ++ caps) w2 fun e w3 => e = .returned (.tuple #[]) ∧ HI B w3 { H with fv := v, F := unF H.F n R, G := up H.G n (g, R') } ∧ w3.heap[x]? = some ox' ∧ Ft B (fun k => k = x) w w3) := fun w1 w2 v k1 k2 k3 => by
    obtain ⟨_, Bt2, hP2⟩ := k2.pg n g R hn
    have hw := (Ft.of (B := B) (X := noX) k1).trans k3
    refine Calls.mono (HF w2 Bt2 hw hP2 (hw.x hx hxy)) ?_
    rintro e w3 ⟨rfl, j1, j2, j3⟩
    refine ⟨rfl, k2.page hn (fun b o _ e hy hb => j3.block b (Array.getElem?_eq_some_iff.1 e).1 hb (by
      rintro rfl
      rw [hw.x hx hxy] at e
      cases e
      exact hxy hy)) j3.size j1, j2, (hw.wide _).trans (j3.ft hBg hP2.pg.row)⟩
  have hkg2 := up_nodup h.kg n (g, R')
  have hin2 : (n, (g, R')) ∈ up H.G n (g, R') := (mem_up h.kg).2 (.inl rfl)
  have HSl : Hid (∀ w3 v, HI B w3 { H with fv := v, F := unF H.F n R, G := up H.G n (g, R') } → Calls Try.prog 55 #[.pointer (some ⟨g, 0, none⟩)] w3 fun e w4 => (∃ v, e = .returned v ∧ OwnI w3.heap.size w4 v (prI R' R'.length)) ∧ Below w3.heap.size w3 w4) := fun w3 v k => by
    obtain ⟨_, Bt2, hP2⟩ := k.pg n g R' hin2
    exact slots_any hP2
  have HGp : Hid (∀ w3 v, HI B w3 { H with fv := v, F := unF H.F n R, G := up H.G n (g, R') } → Calls Try.prog 54 #[.int .i64 n, .pointer (some ⟨g, 0, none⟩)] w3 fun e w' => e = .returned (.agg #[.int .i64 (gapR R'), .int .i64 n]) ∧ Below w3.heap.size w3 w') := fun w3 v k => by
    obtain ⟨_, Bt2, hP2⟩ := k.pg n g R' hin2
    exact gapOf_any hP2 hT n
  have HLi : Hid (∀ w3 v, HI B w3 { H with fv := v, F := unF H.F n R, G := up H.G n (g, R') } → Calls Try.prog 56 #[.pointer (some ⟨H.hb, 0, none⟩), .agg #[.int .i64 (gapR R'), .int .i64 n]] w3 fun e w' => e = .returned (.tuple #[]) ∧ (∃ v, HI B w' { H with fv := v, G := up H.G n (g, R'), F := if 0 < gapR R' then insG (unF H.F n R) (gapR R', n) else unF H.F n R }) ∧ Ft B noX w3 w') := fun w3 v k =>
    list_any k (unF_srt hp n R) (Nat.le_trans (unF_len H.F n R) (by omega)) (gapR R') n
  have HDl : Hid (∀ w3 v, HI B w3 { H with fv := v, F := unF H.F n R, G := up H.G n (g, R') } → ∃ w4, (Builtin.delete_ #[43, 3] 0 #[.map (some mb), .int .i64 n]).run Try.prog w3 = .ok (.tuple #[]) w4 ∧ HI B w4 { H with fv := v, F := unF H.F n R, G := dl (up H.G n (g, R')) n } ∧ Ft B noX w3 w4) := fun w3 v k => by
    obtain ⟨b, j1, j2, j3, _⟩ := k.gmap hin2
    have e : b = mb := by
      have : H.gm = some b := j1
      rw [hgm] at this
      exact (Option.some.inj this).symm
    subst e
    obtain ⟨w4, r1, r2, r3⟩ := j3.drop Try.underlying43 Try.underlying3 n 0
    obtain ⟨es, c, r4, _⟩ := j3.ex
    exact ⟨w4, r1, HI.less (H := { H with fv := v, F := unF H.F n R, G := up H.G n (g, R') }) k hgm n r3 r2 j2, Ft.rest r3 j2 r4 (.inr (.inl ⟨_, _, rfl⟩))⟩
  have HM1 : Hid (∀ w3 v, HI B w3 { H with fv := v, F := unF H.F n R, G := up H.G n (g, R') } → w3.cell? ⟨H.hb, 1, none⟩ = some (.map (some mb))) := fun w3 v k => by
    have := k.cells.2.1
    rw [← hgm]; exact this
  clear HF hfew hlk hP hM
  go_enter Try.func32, Try.ntmps32
  go_wp2_with fail
  refine Calls.mono HG.out ?_
  rintro e w1 ⟨rfl, hb1⟩
  have HU1 := HU.out w1 hb1
  have HC1 : Hid _ := HC.out w1
  replace HU1 : Hid _ := HU1
  clear HU HC HG hlk0
  go_wp2_with fail
  refine Calls.mono HU1.out ?_
  rintro e w2 ⟨rfl, ⟨v, hI2⟩, hft2⟩
  have HC2 : Hid _ := HC1.out w2 v hb1 hI2 hft2
  clear HU1 HC1
  go_wp2_with fail
  refine Calls.mono HC2.out ?_
  rintro e w3 ⟨rfl, hI3, hx3, hft3⟩
  have HSl3 : Hid _ := HSl.out w3 v hI3
  clear HC2 HSl
  go_wp2_with fail
  refine Calls.mono HSl3.out ?_
  rintro e w4 ⟨⟨sv, rfl, hO⟩, hb4⟩
  clear HSl3
  have hI4 := hI3.later hb4
  have hft4 : Ft B (fun k => k = x) w w4 := hft3.trans (Ft.of hb4)
  have hx4 : w4.heap[x]? = some ox' := by rw [hb4.block x (Array.getElem?_eq_some_iff.1 hx3).1]; exact hx3
  obtain ⟨ao, c, rfl, -, -⟩ := hO.rd
  by_cases hR' : R' = []
  · have hl0 : (prI R' R'.length).length = 0 := by rw [hR']; rfl
    rw [hl0]
    obtain ⟨w5, r1, r2, r3⟩ := HDl.out w4 v hI4
    have c4 := HM1.out w4 v hI4
    have hfin := hft4.trans (r3.wide _)
    have hx5 := r3.x hx4 hxy'
    have e1 : chG H.G n g R' = dl (up H.G n (g, R')) n := if_pos hR'
    have e2 : chF H.F n R R' = unF H.F n R := if_pos hR'
    rw [← e1, ← e2] at r2
    clear HDl HM1 HGp HLi hI2 hI3 hI4 hft2 hft3 hft4 r3 e1 e2 hO hin2 hkg2
    go_wp2
    exact bodyPost_ret (results_none rfl _ _ _) rfl ⟨rfl, ⟨_, r2⟩, hfin, hx5⟩
  · have hl0 : ((prI R' R'.length).length : Int) ≠ 0 := fun e => hR' (prs_none hT (by omega))
    have g1 : (((prI R' R'.length).length : Int) == 0) = false := by simpa using hl0
    have HG4 : Hid _ := HGp.out w4 v hI4
    have e1 : chG H.G n g R' = up H.G n (g, R') := if_neg hR'
    have e2 : chF H.F n R R' = if 0 < gapR R' then insG (unF H.F n R) (gapR R', n) else unF H.F n R := if_neg hR'
    generalize (prI R' R'.length).length = m at *
    clear HDl HM1 HGp hI2 hI3 hft2 hft3 hO hkg2 hl0 hR'
    go_wp2_with fail
    refine Calls.mono HG4.out ?_
    rintro e w5 ⟨rfl, hb5⟩
    have HL5 : Hid _ := HLi.out w5 v (hI4.later hb5)
    have hft5 : Ft B (fun k => k = x) w w5 := hft4.trans (Ft.of hb5)
    have hx5 : w5.heap[x]? = some ox' := by rw [hb5.block x (Array.getElem?_eq_some_iff.1 hx4).1]; exact hx4
    clear HG4 HLi hI4
    go_wp2_with fail
    refine Calls.mono HL5.out ?_
    rintro e w6 ⟨rfl, ⟨v6, hI6⟩, hft6⟩
    rw [← e1, ← e2] at hI6
    have hfin := hft5.trans (hft6.wide _)
    have hx6 := hft6.x hx5 hxy'
    clear HL5 e1 e2
    go_wp2
    exact bodyPost_end (results_none rfl _ _ _) rfl ⟨rfl, ⟨_, hI6⟩, hfin, hx6⟩

end Go.Proofs.Ytmfoenhbldacfaa
