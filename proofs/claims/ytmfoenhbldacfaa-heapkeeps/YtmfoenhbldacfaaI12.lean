/- A heap's maps, its count, its pages: one in. -/
import Derived.Test.YtmfoenhbldacfaaI11
namespace Go.Proofs.Ytmfoenhbldacfaa
open Go.RowKit
set_option linter.unusedVariables false
set_option linter.unusedSimpArgs false

theorem HI.pmap {B : Nat} {w : World} {H : Hs} (h : HI B w H) {b : Nat} (hb : H.pm = some b) : B ≤ b ∧ MapB w b .u64 plV H.P := by
  rcases h.pl with ⟨e, _⟩ | ⟨b', k1, k2, k3⟩
  · rw [hb] at e; cases e
  · rw [hb] at k1; cases k1; exact ⟨k2, k3⟩
theorem HI.gmap' {B : Nat} {w : World} {H : Hs} (h : HI B w H) {b : Nat} (hb : H.gm = some b) : B ≤ b ∧ MapB w b .i64 ptV H.G := by
  rcases h.gl with ⟨e, _⟩ | ⟨b', k1, k2, k3⟩
  · rw [hb] at e; cases e
  · rw [hb] at k1; cases k1; exact ⟨k2, k3⟩
theorem HI.pnil {B : Nat} {w : World} {H : Hs} (h : HI B w H) (hb : H.pm = none) : H.P = [] := by
  rcases h.pl with ⟨_, e⟩ | ⟨b', k1, k2, k3⟩
  · exact e
  · rw [hb] at k1; cases k1
theorem HI.gnil {B : Nat} {w : World} {H : Hs} (h : HI B w H) (hb : H.gm = none) : H.G = [] := by
  rcases h.gl with ⟨_, e⟩ | ⟨b', k1, k2, k3⟩
  · exact e
  · rw [hb] at k1; cases k1
/-- The map of places has turned. -/
theorem HI.places {B : Nat} {w w' : World} {H : Hs} (h : HI B w H) {b : Nat} (hb : H.pm = some b) {P : List (Int × (Int × Nat))} (hr : Rest b w w') (hM : MapB w' b .u64 plV P) (hk : (ks P).Nodup) : HI B w' { H with P := P } ∧ Ft B noX w w' := by
  obtain ⟨hB, hM0⟩ := h.pmap hb
  obtain ⟨es0, c0, hm0, _⟩ := hM0.ex
  refine ⟨?_, Ft.rest hr hB hm0 (.inr (.inl ⟨_, _, rfl⟩))⟩
  constructor
  · show w'.heap[H.hb]? = _
    rw [hr.block _ h.lt (ob_ne h.hdr hm0 (by intro hh; cases hh))]; exact h.hdr
  · exact h.bh
  · exact .inr ⟨b, hb, hB, hM⟩
  · exact h.gl.keep fun k es c _ hk e => hr.block k (Array.getElem?_eq_some_iff.1 e).1 (by rintro rfl; exact h.ne _ hb hk)
  · exact h.ne
  · exact h.fr.keep fun k A _ e => hr.block k (Array.getElem?_eq_some_iff.1 e).1 (ob_ne e hm0 (by intro hh; cases hh))
  · intro m g' R'' he
    obtain ⟨h1, Bt, h2⟩ := h.pg m g' R'' he
    exact ⟨h1, Bt, ⟨⟨by rw [hr.block g' h2.pg.lt (ob_ne h2.pg.row hm0 (by intro hh; cases hh))]; exact h2.pg.row⟩, h2.iv⟩⟩
  · exact h.nd
  · exact h.kg
  · exact hk
  · exact Nat.le_trans h.bw hr.size
/-- A page more. -/
theorem HI.more {B : Nat} {w w' : World} {H : Hs} (h : HI B w H) {b : Nat} (hb : H.gm = some b) {n : Int} {g : Nat} {R : Rc} (hr : Rest b w w') (hM : MapB w' b .i64 ptV (up H.G n (g, R))) (hn : n ∉ ks H.G) (hg : B ≤ g) (hp : ∃ Bt, Pi w g Bt R allP) (hf : ∀ m g' R', (m, (g', R')) ∈ H.G → g' ≠ g) :
    HI B w' { H with G := up H.G n (g, R) } ∧ Ft B noX w w' := by
  obtain ⟨hB, hM0⟩ := h.gmap' hb
  obtain ⟨es0, c0, hm0, _⟩ := hM0.ex
  have hpg : ∀ g' Bt R', Pi w g' Bt R' allP → Pi w' g' Bt R' allP := fun g' Bt R' h2 => ⟨⟨by rw [hr.block g' h2.pg.lt (ob_ne h2.pg.row hm0 (by intro hh; cases hh))]; exact h2.pg.row⟩, h2.iv⟩
  refine ⟨?_, Ft.rest hr hB hm0 (.inr (.inl ⟨_, _, rfl⟩))⟩
  constructor
  · show w'.heap[H.hb]? = _
    rw [hr.block _ h.lt (ob_ne h.hdr hm0 (by intro hh; cases hh))]; exact h.hdr
  · exact h.bh
  · exact h.pl.keep fun k es c _ hk e => hr.block k (Array.getElem?_eq_some_iff.1 e).1 (by rintro rfl; exact h.ne _ hk hb)
  · exact .inr ⟨b, hb, hB, hM⟩
  · exact h.ne
  · exact h.fr.keep fun k A _ e => hr.block k (Array.getElem?_eq_some_iff.1 e).1 (ob_ne e hm0 (by intro hh; cases hh))
  · intro m g' R'' he
    rcases (mem_up h.kg).1 he with e | ⟨e, _⟩
    · cases e
      obtain ⟨Bt, h2⟩ := hp
      exact ⟨hg, Bt, hpg _ _ _ h2⟩
    · obtain ⟨h1, Bt, h2⟩ := h.pg m g' R'' e
      exact ⟨h1, Bt, hpg _ _ _ h2⟩
  · show ((up H.G n (g, R)).map (·.2.1)).Nodup
    rw [up_out hn, List.map_append, List.nodup_append]
    refine ⟨h.nd, by simp, fun a ha c hc => ?_⟩
    obtain ⟨⟨m, g', R'⟩, h1, rfl⟩ := List.mem_map.1 ha
    simp at hc
    subst hc
    exact hf m g' R' h1
  · exact up_nodup h.kg n _
  · exact h.kp
  · exact Nat.le_trans h.bw hr.size
theorem HI.setc {B : Nat} {w : World} {H : Hs} (h : HI B w H) (i : Nat) (v : Value) : Ft B noX w (w.setCell ⟨H.hb, i, none⟩ v) := Ft.rest (Rest.set H.hb i w v) h.bh h.hdr (.inl ⟨_, rfl⟩)
/-- A cell of the heap's own has turned: what else there is stands. -/
theorem HI.keepc {B : Nat} {w : World} {H : Hs} (h : HI B w H) (i : Nat) (v : Value) {b : Nat} {o : Obj} (e : w.heap[b]? = some o) (hne : ∀ A, o ≠ .cells A 46 (0, 0)) : (w.setCell ⟨H.hb, i, none⟩ v).heap[b]? = w.heap[b]? :=
  Below.heap_setCell _ _ _ _ (ob_ne e h.hdr (hne _))
theorem HI.next {B : Nat} {w : World} {H : Hs} (h : HI B w H) : HI B (w.setCell ⟨H.hb, 3, none⟩ (.int .i64 ((H.nx + 1 : Nat) : Int))) { H with nx := H.nx + 1 } := by
  constructor
  · show (w.setCell _ _).heap[H.hb]? = _
    simp [World.setCell, Array.getElem?_modify, h.hdr]
  · exact h.bh
  · exact h.pl.keep fun b es c _ _ e => h.keepc 3 _ e (fun A hh => by cases hh)
  · exact h.gl.keep fun b es c _ _ e => h.keepc 3 _ e (fun A hh => by cases hh)
  · exact h.ne
  · exact h.fr.keep fun b A _ e => h.keepc 3 _ e (fun A => ty_ne (by decide))
  · intro m g' R'' he
    obtain ⟨h1, Bt, h2⟩ := h.pg m g' R'' he
    exact ⟨h1, Bt, ⟨⟨by rw [h.keepc 3 _ h2.pg.row (fun A => ty_ne (by decide))]; exact h2.pg.row⟩, h2.iv⟩⟩
  · exact h.nd
  · exact h.kg
  · exact h.kp
  · simp [World.setCell]; exact h.bw
theorem HI.newG {B : Nat} {w : World} {H : Hs} (h0 : HI B w H) (hn : H.gm = none) : HI B ((w.alloc (.map #[] 0)).setCell ⟨H.hb, 1, none⟩ (.map (some w.heap.size))) { H with gm := some w.heap.size } := by
  have hb0 : Below w.heap.size w (w.alloc (.map #[] 0)) := (Below.refl _ _).alloc (Nat.le_refl _) _
  have h := h0.later hb0
  have hnew : (w.alloc (.map #[] 0)).heap[w.heap.size]? = some (.map #[] 0) := heap_alloc_last w _
  constructor
  · show (World.setCell _ _ _).heap[H.hb]? = _
    simp [World.setCell, Array.getElem?_modify, h.hdr]
  · exact h.bh
  · exact h.pl.keep fun b es c _ _ e => h.keepc 1 _ e (fun A hh => by cases hh)
  · refine .inr ⟨w.heap.size, rfl, h0.bw, ?_⟩
    show MapB _ _ _ _ H.G
    rw [h0.gnil hn]
    exact (MapB.new w .i64 ptV).keep (h.keepc 1 _ hnew (fun A hh => by cases hh))
  · intro b hb hg
    have hb' : H.pm = some b := hb
    have hg' : some w.heap.size = some b := hg
    cases hg'
    have := (h0.pmap hb').2.lt
    omega
  · exact h.fr.keep fun b A _ e => h.keepc 1 _ e (fun A => ty_ne (by decide))
  · intro m g' R'' he
    obtain ⟨h1, Bt, h2⟩ := h.pg m g' R'' he
    exact ⟨h1, Bt, ⟨⟨by rw [h.keepc 1 _ h2.pg.row (fun A => ty_ne (by decide))]; exact h2.pg.row⟩, h2.iv⟩⟩
  · exact h.nd
  · exact h.kg
  · exact h.kp
  · have := h.bw; simp [World.setCell] at this ⊢; exact this
theorem HI.newP {B : Nat} {w : World} {H : Hs} (h0 : HI B w H) (hn : H.pm = none) : HI B ((w.alloc (.map #[] 0)).setCell ⟨H.hb, 0, none⟩ (.map (some w.heap.size))) { H with pm := some w.heap.size } := by
  have hb0 : Below w.heap.size w (w.alloc (.map #[] 0)) := (Below.refl _ _).alloc (Nat.le_refl _) _
  have h := h0.later hb0
  have hnew : (w.alloc (.map #[] 0)).heap[w.heap.size]? = some (.map #[] 0) := heap_alloc_last w _
  constructor
  · show (World.setCell _ _ _).heap[H.hb]? = _
    simp [World.setCell, Array.getElem?_modify, h.hdr]
  · exact h.bh
  · refine .inr ⟨w.heap.size, rfl, h0.bw, ?_⟩
    show MapB _ _ _ _ H.P
    rw [h0.pnil hn]
    exact (MapB.new w .u64 plV).keep (h.keepc 0 _ hnew (fun A hh => by cases hh))
  · exact h.gl.keep fun b es c _ _ e => h.keepc 0 _ e (fun A hh => by cases hh)
  · intro b hb hg
    have hg' : H.gm = some b := hg
    have hb' : some w.heap.size = some b := hb
    cases hb'
    have := (h0.gmap' hg').2.lt
    omega
  · exact h.fr.keep fun b A _ e => h.keepc 0 _ e (fun A => ty_ne (by decide))
  · intro m g' R'' he
    obtain ⟨h1, Bt, h2⟩ := h.pg m g' R'' he
    exact ⟨h1, Bt, ⟨⟨by rw [h.keepc 0 _ h2.pg.row (fun A => ty_ne (by decide))]; exact h2.pg.row⟩, h2.iv⟩⟩
  · exact h.nd
  · exact h.kg
  · exact h.kp
  · have := h.bw; simp [World.setCell] at this ⊢; exact this

theorem mkG (w : World) : (Instr.makeMap 43 none).run Try.prog w = .ok (.map (some w.heap.size)) (w.alloc (.map #[] 0)) := by kernel_rfl
theorem mkP (w : World) : (Instr.makeMap 42 none).run Try.prog w = .ok (.map (some w.heap.size)) (w.alloc (.map #[] 0)) := by kernel_rfl
theorem gm_some (b : Nat) (w : World) : (binOp .eql 43 (.map (some b)) (.map none)).run Try.prog w = .ok (.bool false) w := by kernel_rfl
theorem gm_none (w : World) : (binOp .eql 43 (.map none) (.map none)).run Try.prog w = .ok (.bool true) w := by kernel_rfl
theorem pm_some (b : Nat) (w : World) : (binOp .eql 42 (.map (some b)) (.map none)).run Try.prog w = .ok (.bool false) w := by kernel_rfl
theorem pm_none (w : World) : (binOp .eql 42 (.map none) (.map none)).run Try.prog w = .ok (.bool true) w := by kernel_rfl

set_option maxRecDepth 100000 in
set_option maxHeartbeats 2000000 in
theorem keep_any {B : Nat} {w : World} {H : Hs} (h : HI B w H) {n : Int} {g : Nat} {R : Rc} (hn : n ∉ ks H.G) (hg : B ≤ g) (hp : ∃ Bt, Pi w g Bt R allP) (hf : ∀ m g' R', (m, (g', R')) ∈ H.G → g' ≠ g) :
    Calls Try.prog 26 #[.pointer (some ⟨H.hb, 0, none⟩), .int .i64 n, .pointer (some ⟨g, 0, none⟩)] w fun e w' => e = .returned (.tuple #[]) ∧ (∃ b, HI B w' { H with gm := some b, G := up H.G n (g, R) }) ∧ Ft B noX w w' := by
  obtain ⟨c0, c1, c2, c3⟩ := h.cells
  have f1 := h.frozen 1
  have hlt := h.lt
  have E1 := gm_some
  have E2 := gm_none
  have E3 := mkG
  cases hgm : H.gm with
  | some b =>
    obtain ⟨hB, hM⟩ := h.gmap' hgm
    obtain ⟨w', r1, r2, r3⟩ := hM.store Try.underlying43 Try.underlying3 n (g, R)
    obtain ⟨k1, k2⟩ := h.more hgm r3 r2 hn hg hp hf
    rw [show ptV (g, R) = .pointer (some ⟨g, 0, none⟩) from rfl] at r1
    rw [hgm] at c1
    have k1' : HI B w' { H with gm := some b, G := up H.G n (g, R) } := by rw [← hgm]; exact k1
    clear h k1 r2 r3 hp hf hn
    go_enter Try.func26, Try.ntmps26
    go_wp2
    exact bodyPost_end (results_none rfl _ _ _) rfl ⟨rfl, ⟨_, k1'⟩, k2⟩
  | none =>
    have hN := h.newG hgm
    have hb0 : Below w.heap.size w (w.alloc (.map #[] 0)) := (Below.refl _ _).alloc (Nat.le_refl _) _
    have hft : Ft B noX w ((w.alloc (.map #[] 0)).setCell ⟨H.hb, 1, none⟩ (.map (some w.heap.size))) := (Ft.of hb0).trans ((h.later hb0).setc 1 _)
    obtain ⟨hB, hM⟩ := hN.gmap' rfl
    obtain ⟨w', r1, r2, r3⟩ := hM.store Try.underlying43 Try.underlying3 n (g, R)
    obtain ⟨Bt, hP⟩ := hp
    have hPn : Pi ((w.alloc (.map #[] 0)).setCell ⟨H.hb, 1, none⟩ (.map (some w.heap.size))) g Bt R allP := by
      have h2 := hP.later hb0
      exact ⟨⟨by rw [(h.later hb0).keepc 1 _ h2.pg.row (fun A => ty_ne (by decide))]; exact h2.pg.row⟩, h2.iv⟩
    obtain ⟨k1, k2⟩ := hN.more rfl r3 r2 hn hg ⟨_, hPn⟩ hf
    rw [show ptV (g, R) = .pointer (some ⟨g, 0, none⟩) from rfl] at r1
    rw [hgm] at c1
    have d1 : ((w.alloc (.map #[] 0)).setCell ⟨H.hb, 1, none⟩ (.map (some w.heap.size))).cell? ⟨H.hb, 1, none⟩ = some (.map (some w.heap.size)) := hN.cells.2.1
    have a1 : (w.alloc (.map #[] 0)).cell? ⟨H.hb, 1, none⟩ = some (.map none) := bcl hb0 c1
    have a2 : (w.alloc (.map #[] 0)).frozen? ⟨H.hb, 1, none⟩ = false := (h.later hb0).frozen 1
    have hfin := hft.trans k2
    have hcomm : (w.alloc (.map #[] 0)).setCell ⟨H.hb, 1, none⟩ (.map (some w.heap.size)) = (w.setCell ⟨H.hb, 1, none⟩ (.map (some w.heap.size))).alloc (.map #[] 0) := by simp [go_sem, hlt]
    rw [hcomm] at r1
    clear h hN r2 r3 hP hPn hf hn hM k2 hft
    go_enter Try.func26, Try.ntmps26
    go_wp2
    exact bodyPost_end (results_none rfl _ _ _) rfl ⟨rfl, ⟨_, k1⟩, hfin⟩

end Go.Proofs.Ytmfoenhbldacfaa
