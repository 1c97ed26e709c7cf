import Derived.Test.YtmfoenhbldacfaaQar
/- A heap's maps, its count, its pages: one in. -/
namespace Go.Proofs.Ytmfoenhbldacfaa
open Go.RowKit
set_option linter.unusedVariables false
set_option linter.unusedSimpArgs false

theorem HI.pmap {B : Nat} {w : World} {H : Hs} (h : HI B w H) {b : Nat} (hb : H.pm = some b) : B ≤ b ∧ MapB w b .u64 plV H.P := by
  rcases h.pl with ⟨e, _⟩ | ⟨b', k1, k2, k3⟩
  · rw [hb] at e; cases e
  · rw [hb] at k1; cases k1; exact ⟨k2, k3⟩
theorem HI.gmap' {B : Nat} {w : World} {H : Hs} (h : HI B w H) {b : Nat} (hb : H.gm = some b) : B ≤ b ∧ MapB w b .i64 ptV H.G := by
  rcases h.gl with ⟨e, _⟩ | ⟨b', k1, k2, k3⟩
  · rw [hb] at e; cases e
  · rw [hb] at k1; cases k1; exact ⟨k2, k3⟩
theorem HI.pnil {B : Nat} {w : World} {H : Hs} (h : HI B w H) (hb : H.pm = none) : H.P = [] := by
  rcases h.pl with ⟨_, e⟩ | ⟨b', k1, k2, k3⟩
  · exact e
  · rw [hb] at k1; cases k1
theorem HI.gnil {B : Nat} {w : World} {H : Hs} (h : HI B w H) (hb : H.gm = none) : H.G = [] := by
  rcases h.gl with ⟨_, e⟩ | ⟨b', k1, k2, k3⟩
  · exact e
  · rw [hb] at k1; cases k1
/-- The map of places has turned. -/
theorem HI.places {B : Nat} {w w' : World} {H : Hs} (h : HI B w H) {b : Nat} (hb : H.pm = some b) {P : List (Int × (Int × Nat))} (hr : Rest b w w') (hM : MapB w' b .u64 plV P) (hk : (ks P).Nodup) : HI B w' { H with P := P } ∧ Ft B noX w w' := by
  obtain ⟨hB, hM0⟩ := h.pmap hb
  obtain ⟨es0, c0, hm0, _⟩ := hM0.ex
  refine ⟨?_, Ft.rest hr hB hm0 (.inr (.inl ⟨_, _, rfl⟩))⟩
  constructor
  · show w'.heap[H.hb]? = _
    rw [hr.block _ h.lt (ob_ne h.hdr hm0 (by intro hh; cases hh))]; exact h.hdr
  · exact h.bh
  · exact .inr ⟨b, hb, hB, hM⟩
  · exact h.gl.keep fun k es c _ hk e => hr.block k (Array.getElem?_eq_some_iff.1 e).1 (by rintro rfl; exact h.ne _ hb hk)
  · exact h.ne
  · exact h.fr.keep fun k A _ e => hr.block k (Array.getElem?_eq_some_iff.1 e).1 (ob_ne e hm0 (by intro hh; cases hh))
  · intro m g' R'' he
    obtain ⟨h1, Bt, h2⟩ := h.pg m g' R'' he
    exact ⟨h1, Bt, ⟨⟨by rw [hr.block g' h2.pg.lt (ob_ne h2.pg.row hm0 (by intro hh; cases hh))]; exact h2.pg.row⟩, h2.iv⟩⟩
  · exact h.nd
  · exact h.kg
  · exact hk
  · exact Nat.le_trans h.bw hr.size
/-- A page more. -/
theorem HI.more {B : Nat} {w w' : World} {H : Hs} (h : HI B w H) {b : Nat} (hb : H.gm = some b) {n : Int} {g : Nat} {R : Rc} (hr : Rest b w w') (hM : MapB w' b .i64 ptV (up H.G n (g, R))) (hn : n ∉ ks H.G) (hg : B ≤ g) (hp : ∃ Bt, Pi w g Bt R allP) (hf : ∀ m g' R', (m, (g', R')) ∈ H.G → g' ≠ g) :
    HI B w' { H with G := up H.G n (g, R) } ∧ Ft B noX w w' := by
  obtain ⟨hB, hM0⟩ := h.gmap' hb
  obtain ⟨es0, c0, hm0, _⟩ := hM0.ex
  have hpg : ∀ g' Bt R', Pi w g' Bt R' allP → Pi w' g' Bt R' allP := fun g' Bt R' h2 => ⟨⟨by rw [hr.block g' h2.pg.lt (ob_ne h2.pg.row hm0 (by intro hh; cases hh))]; exact h2.pg.row⟩, h2.iv⟩
  refine ⟨?_, Ft.rest hr hB hm0 (.inr (.inl ⟨_, _, rfl⟩))⟩
  constructor
  · show w'.heap[H.hb]? = _
    rw [hr.block _ h.lt (ob_ne h.hdr hm0 (by intro hh; cases hh))]; exact h.hdr
  · exact h.bh
  · exact h.pl.keep fun k es c _ hk e => hr.block k (Array.getElem?_eq_some_iff.1 e).1 (by rintro rfl; exact h.ne _ hk hb)
  · exact .inr ⟨b, hb, hB, hM⟩
  · exact h.ne
  · exact h.fr.keep fun k A _ e => hr.block k (Array.getElem?_eq_some_iff.1 e).1 (ob_ne e hm0 (by intro hh; cases hh))
  · intro m g' R'' he
    rcases (mem_up h.kg).1 he with e | ⟨e, _⟩
    · cases e
      obtain ⟨Bt, h2⟩ := hp
      exact ⟨hg, Bt, hpg _ _ _ h2⟩
    · obtain ⟨h1, Bt, h2⟩ := h.pg m g' R'' e
      exact ⟨h1, Bt, hpg _ _ _ h2⟩
  · show ((up H.G n (g, R)).map (·.2.1)).Nodup
    rw [up_out hn, List.map_append, List.nodup_append]
    refine ⟨h.nd, by simp, fun a ha c hc => ?_⟩
    obtain ⟨⟨m, g', R'⟩, h1, rfl⟩ := List.mem_map.1 ha
    simp at hc
    subst hc
    exact hf m g' R' h1
  · exact up_nodup h.kg n _
  · exact h.kp
  · exact Nat.le_trans h.bw hr.size
theorem HI.setc {B : Nat} {w : World} {H : Hs} (h : HI B w H) (i : Nat) (v : Value) : Ft B noX w (w.setCell ⟨H.hb, i, none⟩ v) := Ft.rest (Rest.set H.hb i w v) h.bh h.hdr (.inl ⟨_, rfl⟩)
/-- A cell of the heap's own has turned: what else there is stands. -/
theorem HI.keepc {B : Nat} {w : World} {H : Hs} (h : HI B w H) (i : Nat) (v : Value) {b : Nat} {o : Obj} (e : w.heap[b]? = some o) (hne : ∀ A, o ≠ .cells A 46 (0, 0)) : (w.setCell ⟨H.hb, i, none⟩ v).heap[b]? = w.heap[b]? :=
  Below.heap_setCell _ _ _ _ (ob_ne e h.hdr (hne _))
theorem HI.next {B : Nat} {w : World} {H : Hs} (h : HI B w H) : HI B (w.setCell ⟨H.hb, 3, none⟩ (.int .i64 ((H.nx + 1 : Nat) : Int))) { H with nx := H.nx + 1 } := by
  constructor
  · show (w.setCell _ _).heap[H.hb]? = _
    simp [World.setCell, Array.getElem?_modify, h.hdr]
  · exact h.bh
  · exact h.pl.keep fun b es c _ _ e => h.keepc 3 _ e (fun A hh => by cases hh)
  · exact h.gl.keep fun b es c _ _ e => h.keepc 3 _ e (fun A hh => by cases hh)
  · exact h.ne
  · exact h.fr.keep fun b A _ e => h.keepc 3 _ e (fun A => ty_ne (by decide))
  · intro m g' R'' he
    obtain ⟨h1, Bt, h2⟩ := h.pg m g' R'' he
    exact ⟨h1, Bt, ⟨⟨by rw [h.keepc 3 _ h2.pg.row (fun A => ty_ne (by decide))]; exact h2.pg.row⟩, h2.iv⟩⟩
  · exact h.nd
  · exact h.kg
  · exact h.kp
  · simp [World.setCell]; exact h.bw
theorem HI.newG {B : Nat} {w : World} {H : Hs} (h0 : HI B w H) (hn : H.gm = none) : HI B ((w.alloc (.map #[] 0)).setCell ⟨H.hb, 1, none⟩ (.map (some w.heap.size))) { H with gm := some w.heap.size } := by
  have hb0 : Below w.heap.size w (w.alloc (.map #[] 0)) := (Below.refl _ _).alloc (Nat.le_refl _) _
  have h := h0.later hb0
  have hnew : (w.alloc (.map #[] 0)).heap[w.heap.size]? = some (.map #[] 0) := heap_alloc_last w _
  constructor
  · show (World.setCell _ _ _).heap[H.hb]? = _
    simp [World.setCell, Array.getElem?_modify, h.hdr]
  · exact h.bh
  · exact h.pl.keep fun b es c _ _ e => h.keepc 1 _ e (fun A hh => by cases hh)
  · refine .inr ⟨w.heap.size, rfl, h0.bw, ?_⟩
    show MapB _ _ _ _ H.G
    rw [h0.gnil hn]
    exact (MapB.new w .i64 ptV).keep (h.keepc 1 _ hnew (fun A hh => by cases hh))
  · intro b hb hg
    have hb' : H.pm = some b := hb
    have hg' : some w.heap.size = some b := hg
    cases hg'
    have := (h0.pmap hb').2.lt
    omega
  · exact h.fr.keep fun b A _ e => h.keepc 1 _ e (fun A => ty_ne (by decide))
  · intro m g' R'' he
    obtain ⟨h1, Bt, h2⟩ := h.pg m g' R'' he
    exact ⟨h1, Bt, ⟨⟨by rw [h.keepc 1 _ h2.pg.row (fun A => ty_ne (by decide))]; exact h2.pg.row⟩, h2.iv⟩⟩
  · exact h.nd
  · exact h.kg
  · exact h.kp
  · have := h.bw; simp [World.setCell] at this ⊢; exact this
theorem HI.newP {B : Nat} {w : World} {H : Hs} (h0 : HI B w H) (hn : H.pm = none) : HI B ((w.alloc (.map #[] 0)).setCell ⟨H.hb, 0, none⟩ (.map (some w.heap.size))) { H with pm := some w.heap.size } := by
  have hb0 : Below w.heap.size w (w.alloc (.map #[] 0)) := (Below.refl _ _).alloc (Nat.le_refl _) _
  have h := h0.later hb0
  have hnew : (w.alloc (.map #[] 0)).heap[w.heap.size]? = some (.map #[] 0) := heap_alloc_last w _
  constructor
  · show (World.setCell _ _ _).heap[H.hb]? = _
    simp [World.setCell, Array.getElem?_modify, h.hdr]
  · exact h.bh
  · refine .inr ⟨w.heap.size, rfl, h0.bw, ?_⟩
    show MapB _ _ _ _ H.P
    rw [h0.pnil hn]
    exact (MapB.new w .u64 plV).keep (h.keepc 0 _ hnew (fun A hh => by cases hh))
  · exact h.gl.keep fun b es c _ _ e => h.keepc 0 _ e (fun A hh => by cases hh)
  · intro b hb hg
    have hg' : H.gm = some b := hg
    have hb' : some w.heap.size = some b := hb
    cases hb'
    have := (h0.gmap' hg').2.lt
    omega
  · exact h.fr.keep fun b A _ e => h.keepc 0 _ e (fun A => ty_ne (by decide))
  · intro m g' R'' he
    obtain ⟨h1, Bt, h2⟩ := h.pg m g' R'' he
    exact ⟨h1, Bt, ⟨⟨by rw [h.keepc 0 _ h2.pg.row (fun A => ty_ne (by decide))]; exact h2.pg.row⟩, h2.iv⟩⟩
  · exact h.nd
  · exact h.kg
  · exact h.kp
  · have := h.bw; simp [World.setCell] at this ⊢; exact this

theorem mkG (w : World) : (Instr.makeMap 43 none).run Try.prog w = .ok (.map (some w.heap.size)) (w.alloc (.map #[] 0)) := by kernel_rfl
theorem mkP (w : World) : (Instr.makeMap 42 none).run Try.prog w = .ok (.map (some w.heap.size)) (w.alloc (.map #[] 0)) := by kernel_rfl
theorem gm_some (b : Nat) (w : World) : (binOp .eql 43 (.map (some b)) (.map none)).run Try.prog w = .ok (.bool false) w := by kernel_rfl
theorem gm_none (w : World) : (binOp .eql 43 (.map none) (.map none)).run Try.prog w = .ok (.bool true) w := by kernel_rfl
theorem pm_some (b : Nat) (w : World) : (binOp .eql 42 (.map (some b)) (.map none)).run Try.prog w = .ok (.bool false) w := by kernel_rfl
theorem pm_none (w : World) : (binOp .eql 42 (.map none) (.map none)).run Try.prog w = .ok (.bool true) w := by kernel_rfl

set_option maxRecDepth 100000 in
set_option maxHeartbeats 2000000 in
theorem keep_any {B : Nat} {w : World} {H : Hs} (h : HI B w H) {n : Int} {g : Nat} {R : Rc} (hn : n ∉ ks H.G) (hg : B ≤ g) (hp : ∃ Bt, Pi w g Bt R allP) (hf : ∀ m g' R', (m, (g', R')) ∈ H.G → g' ≠ g) :
    Calls Try.prog 26 #[.pointer (some ⟨H.hb, 0, none⟩), .int .i64 n, .pointer (some ⟨g, 0, none⟩)] w fun e w' => e = .returned (.tuple #[]) ∧ (∃ b, HI B w' { H with gm := some b, G := up H.G n (g, R) }) ∧ Ft B noX w w' := by
  obtain ⟨c0, c1, c2, c3⟩ := h.cells
  have f1 := h.frozen 1
  have hlt := h.lt
  have E1 := gm_some
  have E2 := gm_none
  have E3 := mkG
  cases hgm : H.gm with
  | some b =>
    obtain ⟨hB, hM⟩ := h.gmap' hgm
    obtain ⟨w', r1, r2, r3⟩ := hM.store Try.underlying43 Try.underlying3 n (g, R)
    obtain ⟨k1, k2⟩ := h.more hgm r3 r2 hn hg hp hf
    rw [show ptV (g, R) = .pointer (some ⟨g, 0, none⟩) from rfl] at r1
    rw [hgm] at c1
    have k1' : HI B w' { H with gm := some b, G := up H.G n (g, R) } := by rw [← hgm]; exact k1
    clear h k1 r2 r3 hp hf hn
    go_enter Try.func26, Try.ntmps26
    go_wp2
    exact bodyPost_end (results_none rfl _ _ _) rfl ⟨rfl, ⟨_, k1'⟩, k2⟩
  | none =>
    have hN := h.newG hgm
    have hb0 : Below w.heap.size w (w.alloc (.map #[] 0)) := (Below.refl _ _).alloc (Nat.le_refl _) _
    have hft : Ft B noX w ((w.alloc (.map #[] 0)).setCell ⟨H.hb, 1, none⟩ (.map (some w.heap.size))) := (Ft.of hb0).trans ((h.later hb0).setc 1 _)
    obtain ⟨hB, hM⟩ := hN.gmap' rfl
    obtain ⟨w', r1, r2, r3⟩ := hM.store Try.underlying43 Try.underlying3 n (g, R)
    obtain ⟨Bt, hP⟩ := hp
    have hPn : Pi ((w.alloc (.map #[] 0)).setCell ⟨H.hb, 1, none⟩ (.map (some w.heap.size))) g Bt R allP := by
      have h2 := hP.later hb0
      exact ⟨⟨by rw [(h.later hb0).keepc 1 _ h2.pg.row (fun A => ty_ne (by decide))]; exact h2.pg.row⟩, h2.iv⟩
    obtain ⟨k1, k2⟩ := hN.more rfl r3 r2 hn hg ⟨_, hPn⟩ hf
    rw [show ptV (g, R) = .pointer (some ⟨g, 0, none⟩) from rfl] at r1
    rw [hgm] at c1
    have d1 : ((w.alloc (.map #[] 0)).setCell ⟨H.hb, 1, none⟩ (.map (some w.heap.size))).cell? ⟨H.hb, 1, none⟩ = some (.map (some w.heap.size)) := hN.cells.2.1
    have a1 : (w.alloc (.map #[] 0)).cell? ⟨H.hb, 1, none⟩ = some (.map none) := bcl hb0 c1
    have a2 : (w.alloc (.map #[] 0)).frozen? ⟨H.hb, 1, none⟩ = false := (h.later hb0).frozen 1
    have hfin := hft.trans k2
    have hcomm : (w.alloc (.map #[] 0)).setCell ⟨H.hb, 1, none⟩ (.map (some w.heap.size)) = (w.setCell ⟨H.hb, 1, none⟩ (.map (some w.heap.size))).alloc (.map #[] 0) := by simp [go_sem, hlt]
    rw [hcomm] at r1
    clear h hN r2 r3 hP hPn hf hn hM k2 hft
    go_enter Try.func26, Try.ntmps26
    go_wp2
    exact bodyPost_end (results_none rfl _ _ _) rfl ⟨rfl, ⟨_, k1⟩, hfin⟩

end Go.Proofs.Ytmfoenhbldacfaa
/- A page with room. -/
namespace Go.Proofs.Ytmfoenhbldacfaa
open Go.RowKit
set_option linter.unusedVariables false
set_option linter.unusedSimpArgs false

/-- What roomy tells. -/
structure Rmy (B : Nat) (w : World) (H : Hs) (k : Nat) (w' : World) (n : Int) (H' : Hs) (g : Nat) (R : Rc) : Prop where
  hi : HI B w' H'
  hp : HP H' (some n)
  ft : Ft B noX w w'
  mem : (n, (g, R)) ∈ H'.G
  room : (k : Int) ≤ gapR R
  hb : H'.hb = H.hb
  pl : H'.P = H.P
  pm : H'.pm = H.pm
  nx : H'.nx ≤ H.nx + 1
  len : H'.G.length ≤ H.G.length + 1
  oth : ∀ m, m ≠ n → lk H'.G m = lk H.G m
  old : lk H.G n = some (g, R) ∨ (lk H.G n = none ∧ R = [])
theorem rmy_new {B : Nat} {w w' : World} {H : Hs} {k : Nat} (hk : k ≤ 200) (hp : HP H none) (kg : (ks H.G).Nodup) {b g : Nat} (hi : HI B w' { H with nx := H.nx + 1, gm := some b, G := up H.G (H.nx : Int) (g, []) }) (ft : Ft B noX w w') :
    Rmy B w H k w' (H.nx : Int) { H with nx := H.nx + 1, gm := some b, G := up H.G (H.nx : Int) (g, []) } g [] := by
  have hn : (H.nx : Int) ∉ ks H.G := fun e => by
    obtain ⟨⟨g', R'⟩, e1⟩ := lk_key.1 e
    have := (hp.rng _ _ _ (lk_mem e1)).2
    omega
  have hm : ∀ m g' R', (m, (g', R')) ∈ up H.G (H.nx : Int) (g, []) ↔ (m, (g', R')) = ((H.nx : Int), (g, [])) ∨ ((m, (g', R')) ∈ H.G ∧ m ≠ H.nx) := fun m g' R' => mem_up kg
  refine ⟨hi, ⟨fun m g' R' e => ?_, fun m g' R' e => ?_, fun m g' R' e hne => ?_, hp.srt, fun r m e => ?_, fun m g' R' e hne hr => ?_⟩, ft, (hm _ _ _).2 (.inl rfl), ?_, rfl, rfl, rfl, Nat.le_refl _, ?_, fun m hne => ?_, .inr ⟨lk_none.2 hn, rfl⟩⟩
  · rcases (hm _ _ _).1 e with e | ⟨e, _⟩
    · cases e; show (0 : Int) ≤ (H.nx : Int) ∧ (H.nx : Int) < ((H.nx + 1 : Nat) : Int); omega
    · have := hp.rng _ _ _ e
      show (0 : Int) ≤ m ∧ m < ((H.nx + 1 : Nat) : Int)
      omega
  · rcases (hm _ _ _).1 e with e | ⟨e, _⟩
    · cases e; exact .inl rfl
    · exact hp.tm _ _ _ e
  · rcases (hm _ _ _).1 e with e | ⟨e, _⟩
    · cases e; exact absurd rfl hne
    · exact hp.ne _ _ _ e (by simp)
  · obtain ⟨g', R', e1, e2⟩ := hp.fre r m e
    exact ⟨g', R', (hm _ _ _).2 (.inr ⟨e1, fun e3 => hn (e3 ▸ mem_key e1)⟩), e2⟩
  · rcases (hm _ _ _).1 e with e | ⟨e, _⟩
    · cases e; exact absurd rfl hne
    · exact hp.fre' _ _ _ e (by simp) hr
  · have : gapR [] = 244 := by decide
    omega
  · show (up H.G (H.nx : Int) (g, [])).length ≤ _
    rw [len_up, if_neg hn]; exact Nat.le_refl _
  · show lk (up H.G (H.nx : Int) (g, [])) m = _
    rw [lk_up, if_neg hne]
theorem rmy_old {B : Nat} {w w' : World} {H : Hs} {k : Nat} (h : HI B w H) (hp : HP H none) (hb : Below w.heap.size w w') (hlt : lb H.F ((k : Int), 0) < H.F.length) :
    ∃ g R, Rmy B w H k w' (H.F[lb H.F ((k : Int), 0)]).2 H g R := by
  obtain ⟨⟨r, n⟩, hx⟩ : ∃ x, H.F[lb H.F ((k : Int), 0)] = x := ⟨_, rfl⟩
  have hge := lb_ge hlt hp.srt (Nat.le_refl _)
  rw [hx] at hge
  have hmem : (r, n) ∈ H.F := by rw [← hx]; exact List.getElem_mem _
  obtain ⟨g, R, h1, h2, h3⟩ := hp.fre r n hmem
  have h4 := (hp.rng _ _ _ h1).1
  have hr : (k : Int) ≤ r := by
    unfold glt at hge
    simp only at hge
    omega
  rw [hx]
  exact ⟨g, R, h.later hb, hp.exempt _, Ft.of hb, h1, by rw [← h2]; exact hr, rfl, rfl, rfl, Nat.le_succ _, Nat.le_succ _, fun _ _ => rfl, .inl (mem_lk h.kg h1)⟩

set_option maxRecDepth 100000 in
set_option maxHeartbeats 4000000 in
theorem roomy_any {B : Nat} {w : World} {H : Hs} (h : HI B w H) (hp : HP H none) {k : Nat} (hk : k ≤ 200) (hl : H.G.length ≤ 800) (hnx : H.nx ≤ 1000000) :
    Calls Try.prog 35 #[.pointer (some ⟨H.hb, 0, none⟩), .int .i64 (k : Int)] w fun e w' => ∃ n H' g R, e = .returned (.int .i64 n) ∧ Rmy B w H k w' n H' g R := by
  have hfew := hp.few h.kg
  obtain ⟨ao, c, hfv, hc1, hc2, hcells⟩ := h.fr.cells
  have HS : Hid (∀ w', Below w.heap.size w w' → _) := fun w' k' => search_any (w := w') (ao := ao) (n := H.F.length) (c := c) (by rw [← hfv]; exact h.fr.later k') hp.srt (by omega) (k : Int) 0
  have HC : Hid (∀ w', Below w.heap.size w w' → w'.cell? ⟨H.hb, 2, none⟩ = some (.slice ao H.F.length c) ∧ w'.cell? ⟨H.hb, 3, none⟩ = some (.int .i64 (H.nx : Int)) ∧ w'.frozen? ⟨H.hb, 3, none⟩ = false) := fun w' k => ⟨bcl k (by rw [← hfv]; exact h.cells.2.2.1), bcl k h.cells.2.2.2, (h.later k).frozen 3⟩
  have c2 := (HC.out w (Below.refl _ _)).1
  have hlb := lb_le H.F ((k : Int), 0)
  obtain ⟨I, hI⟩ : ∃ b, decide (inG H.F ((k : Int), 0)) = b := ⟨_, rfl⟩
  rw [hI] at HS
  by_cases hlt : lb H.F ((k : Int), 0) < H.F.length
  · have HO : Hid (∀ w', Below w.heap.size w w' → _) := fun w' hb => rmy_old (k := k) h hp hb hlt
    obtain ⟨g, rfl, hcc⟩ := hcells (by omega)
    have HE : Hid (∀ w', Below w.heap.size w w' → w'.cell? ⟨g, lb H.F ((k : Int), 0) * 2 + 1, none⟩ = some (.int .i64 (H.F[lb H.F ((k : Int), 0)]).2)) := fun w' hb => by
      obtain ⟨_, _, e', _, _, hx⟩ := (h.fr.later hb).cells
      rw [hfv] at e'
      cases e'
      obtain ⟨g', e, hy⟩ := hx (by omega)
      cases e
      exact (hy _ hlt).2
    clear h hp hcells hcc hfv
    generalize (H.F[lb H.F ((k : Int), 0)]).2 = n at *
    generalize lb H.F ((k : Int), 0) = b at *
    generalize H.F.length = N at *
    have g1 : decide ((b : Int) < (N : Int)) = true := by simpa using hlt
    have hbN : (b : Int) < (N : Int) := by omega
    go_enter Try.func35, Try.ntmps35
    go_wp2_with fail
    refine Calls.mono (HS.out _ (Below.refl _ _)) ?_
    rintro e w1 ⟨rfl, hb1⟩
    obtain ⟨a1, a2, a3⟩ := HC.out w1 hb1
    have a4 := HE.out w1 hb1
    have hO := HO.out w1 hb1
    clear HS HC HE HO c2
    go_wp2
    go_ret
    obtain ⟨g', R', hO⟩ := hO
    exact ⟨_, _, _, _, rfl, hO⟩
  · have HN : Hid (∀ w1, Below w.heap.size w w1 → HI B (w1.setCell ⟨H.hb, 3, none⟩ (.int .i64 ((H.nx + 1 : Nat) : Int))) { H with nx := H.nx + 1 } ∧ Ft B noX w (w1.setCell ⟨H.hb, 3, none⟩ (.int .i64 ((H.nx + 1 : Nat) : Int)))) := fun w1 hb => ⟨(h.later hb).next, (Ft.of hb).trans ((h.later hb).setc 3 _)⟩
    have hnk : (H.nx : Int) ∉ ks H.G := fun e => by
      obtain ⟨⟨g', R'⟩, e1⟩ := lk_key.1 e
      have := (hp.rng _ _ _ (lk_mem e1)).2
      omega
    have HK : Hid (∀ w2 w3 g Bt, HI B w2 { H with nx := H.nx + 1 } → Ft B noX w w2 → Below w2.heap.size w2 w3 → g = w2.heap.size → Pi w3 g Bt [] allP → Calls Try.prog 26 #[.pointer (some ⟨H.hb, 0, none⟩), .int .i64 (H.nx : Int), .pointer (some ⟨g, 0, none⟩)] w3 fun e w' => e = .returned (.tuple #[]) ∧ ∃ H', Rmy B w H k w' (H.nx : Int) H' g []) := fun w2 w3 g Bt k1 k2 k3 k4 k5 => by
      refine Calls.mono (keep_any (H := { H with nx := H.nx + 1 }) (k1.later k3) hnk (by rw [k4]; exact k1.bw) ⟨_, k5⟩ (fun m g' R' e => by
        obtain ⟨_, Bt', hP'⟩ := k1.pg m g' R' e
        have := hP'.pg.lt
        omega)) ?_
      rintro e w4 ⟨rfl, ⟨b, j1⟩, j2⟩
      exact ⟨rfl, _, rmy_new hk hp h.kg j1 (k2.trans ((Ft.of k3).trans j2))⟩
    have hcast : ((H.nx + 1 : Nat) : Int) = (H.nx : Int) + 1 := by omega
    rw [hcast] at HN
    clear h hp hcells hfv hcast
    generalize lb H.F ((k : Int), 0) = b at *
    generalize H.F.length = N at *
    have g1 : decide ((b : Int) < (N : Int)) = false := by simp; omega
    have hwr : IntKind.i64.wrap ((H.nx : Int) + 1) = (H.nx : Int) + 1 := by rw [IntKind.wrap_i64]; omega
    go_enter Try.func35, Try.ntmps35
    go_wp2_with fail
    refine Calls.mono (HS.out _ (Below.refl _ _)) ?_
    rintro e w1 ⟨rfl, hb1⟩
    obtain ⟨a1, a2, a3⟩ := HC.out w1 hb1
    obtain ⟨hN1, hN2⟩ := HN.out w1 hb1
    clear HS HC HN c2
    replace hN1 : Hid _ := hN1
    replace hN2 : Hid _ := hN2
    go_wp2_with fail
    refine Calls.mono (new_any _) ?_
    rintro e w3 ⟨rfl, hP, hb3⟩
    have HK3 := HK.out _ w3 _ _ hN1.out hN2.out hb3 rfl hP
    generalize (w1.setCell ⟨H.hb, 3, none⟩ (.int .i64 ((H.nx : Int) + 1))) = W at *
    generalize W.heap.size = q at *
    replace HK3 : Hid _ := HK3
    clear HK hN1 hN2 hP hb3
    go_wp2_with fail
    refine Calls.mono HK3.out ?_
    rintro e w4 ⟨rfl, H', hR⟩
    replace hR : Hid _ := hR
    clear HK3
    go_wp2
    go_ret
    exact ⟨_, _, _, _, rfl, hR.out⟩

end Go.Proofs.Ytmfoenhbldacfaa
