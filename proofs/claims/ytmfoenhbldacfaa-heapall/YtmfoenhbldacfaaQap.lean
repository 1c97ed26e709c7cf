import Derived.Test.YtmfoenhbldacfaaQao
/- A heap in memory; what room a page has. -/
namespace Go.Proofs.Ytmfoenhbldacfaa
open Go.RowKit
set_option linter.unusedVariables false
set_option linter.unusedSimpArgs false

/-! ### The room of a page -/
def rawR (R : List (List Int)) : Int := if vac R = R.length then freeR R - 4 else freeR R
def gapR (R : List (List Int)) : Int := max (rawR R) 0
theorem layE_fit {R : List (List Int)} {b : List Int} (hb : b ≠ []) (h2 : b.length ≤ 200) (h : (b.length : Int) ≤ gapR R) : layE R (vac R) b = 0 := by
  have hp : 0 < b.length := List.length_pos_iff.2 hb
  have hv := vac_le R
  have e := setR_free hv b
  rw [vac_out, List.length_nil] at e
  unfold gapR rawR at h
  unfold layE
  rw [if_neg (by intro h; rcases h with h | h; exact hb h; omega), if_neg]
  rw [e]
  split at h <;> split <;> omega
theorem prs_full (R : List (List Int)) : ∀ k, (prs R k).length = k ↔ ∀ s, s < k → rc R s ≠ []
  | 0 => by simp [prs]
  | k + 1 => by
    have hk := prs_len R k
    rw [prs_succ]
    by_cases e : rc R k = []
    · rw [if_pos e]
      constructor
      · intro h; omega
      · intro h; exact absurd e (h k (Nat.lt_succ_self _))
    · rw [if_neg e, List.length_append, List.length_singleton]
      constructor
      · intro h s hs
        rcases Nat.lt_succ_iff_lt_or_eq.1 hs with hs | rfl
        · exact (prs_full R k).1 (by omega) s hs
        · exact e
      · intro h
        have := (prs_full R k).2 (fun s hs => h s (by omega))
        omega
theorem full_vac (R : List (List Int)) : (∀ s, s < R.length → rc R s ≠ []) ↔ vac R = R.length := by
  constructor
  · intro h
    have h1 := vac_le R
    rcases Nat.lt_or_eq_of_le h1 with h2 | h2
    · exact absurd (vac_out R) (h _ h2)
    · exact h2
  · intro h s hs
    exact vac_lt R s (by omega)
theorem prs_last {R : List (List Int)} {k : Nat} (h : rc R k ≠ []) : prs R (k + 1) = prs R k ++ [k] := by rw [prs_succ, if_neg h]

set_option maxRecDepth 100000 in
set_option maxHeartbeats 1000000 in
theorem gapOf_any {w : World} {g : Nat} {Bt : List Int} {R : List (List Int)} {p : Nat → Prop} (h : Pi w g Bt R p) (hT : Tm R) (n : Int) :
    Calls Try.prog 54 #[.int .i64 n, .pointer (some ⟨g, 0, none⟩)] w fun e w' => e = .returned (.agg #[.int .i64 (gapR R), .int .i64 n]) ∧ Below w.heap.size w w' := by
  have hf := h.iv.few
  have hfr := h.iv.fr
  have HS : Hid (∀ w', Below w.heap.size w w' → _) := fun w' hb => slots_any (h.later hb)
  have HF : Hid (∀ w', Below w.heap.size w w' → _) := fun w' hb => free_any (h.later hb)
  have hfl : freeR R ≤ 248 := by unfold freeR; omega
  have hlen := prI_len R R.length
  obtain ⟨M, hM⟩ : ∃ M, gapR R = M := ⟨_, rfl⟩
  rw [hM]
  obtain ⟨f, hfe⟩ : ∃ f, freeR R = f := ⟨_, rfl⟩
  rw [hfe] at HF hfr hfl
  -- what the list of slots says
  have hcase : (prI R R.length = [] ∧ M = max (f - 4) 0) ∨ (∃ P : List Int, ∃ l : Nat, prI R R.length = P ++ [(l : Int)] ∧ l ≤ 61 ∧ ((P.length = l ∧ M = max (f - 4) 0) ∨ (P.length ≠ l ∧ M = max f 0))) := by
    rcases hT with h0 | h0
    · left
      have : R = [] := List.eq_nil_of_length_eq_zero h0
      subst this
      refine ⟨rfl, ?_⟩
      rw [← hM, ← hfe]; rfl
    · right
      have hlt := rc_lt h0
      have e := prs_last h0
      rw [show R.length - 1 + 1 = R.length from by omega] at e
      refine ⟨(prs R (R.length - 1)).map (fun (s : Nat) => (s : Int)), R.length - 1, by rw [prI, e, List.map_append]; rfl, by omega, ?_⟩
      rw [List.length_map]
      by_cases hv : vac R = R.length
      · left
        have h1 := (prs_full R (R.length - 1)).2 (fun s hs => (full_vac R).2 hv s (by omega))
        exact ⟨h1, by rw [← hM, ← hfe]; unfold gapR rawR; rw [if_pos hv]⟩
      · right
        refine ⟨fun h1 => hv ((full_vac R).1 fun s hs => ?_), by rw [← hM, ← hfe]; unfold gapR rawR; rw [if_neg hv]⟩
        by_cases hs2 : s < R.length - 1
        · exact (prs_full R (R.length - 1)).1 h1 s hs2
        · rw [show s = R.length - 1 from by omega]; exact h0
  go_enter Try.func54, Try.ntmps54
  go_wp2_with fail
  have hB0 : Below w.heap.size w (w.alloc (.cells #[.int .i64 0, .int .i64 0] 66)) := (Below.refl _ _).alloc (Nat.le_refl _) _
  refine Calls.mono (HS.out _ hB0) ?_
  rintro e w1 ⟨⟨v, rfl, hv⟩, hb1⟩
  have hB1 := bthen hB0 hb1
  clear hB0
  go_wp2_with fail
  refine Calls.mono (HF.out _ hB1) ?_
  rintro e w2 ⟨rfl, hb2⟩
  have hB2 := bthen hB1 hb2
  replace hv := hv.later hb2
  have hR2 := hv.rd
  have hbx : w2.heap[w.heap.size]? = some (.cells #[.int .i64 0, .int .i64 0] 66 (0, 0)) := by
    have h1 := (bthen hb1 hb2).block w.heap.size (by simp)
    rw [h1]; exact heap_alloc_last w _
  have c0 : w2.cell? ⟨w.heap.size, 0, none⟩ = some (.int .i64 0) := cell_of_row _ _ _ _ _ _ hbx
  have c1 : w2.cell? ⟨w.heap.size, 1, none⟩ = some (.int .i64 0) := cell_of_row _ _ _ _ _ _ hbx
  have z0 : w2.frozen? ⟨w.heap.size, 0, none⟩ = false := by unfold World.frozen?; rw [hbx]; rfl
  have z1 : w2.frozen? ⟨w.heap.size, 1, none⟩ = false := by unfold World.frozen?; rw [hbx]; rfl
  have hBs : Hid (∀ a b : Value, Below w.heap.size w ((w2.setCell ⟨w.heap.size, 0, none⟩ a).setCell ⟨w.heap.size, 1, none⟩ b)) := fun a b => Rest.below hB2 ((Rest.set w.heap.size 0 w2 a).trans (Rest.set _ _ _ _)) (Nat.le_refl _) hB2.size
  have hK : ∀ a b : Value, ((w2.setCell ⟨w.heap.size, 0, none⟩ a).setCell ⟨w.heap.size, 1, none⟩ b).heap[w.heap.size]? = some (.cells #[a, b] 66 (0, 0)) := fun a b => by simp [World.setCell, Array.getElem?_modify, hbx]
  have hK0 : ∀ a b : Value, ((w2.setCell ⟨w.heap.size, 0, none⟩ a).setCell ⟨w.heap.size, 1, none⟩ b).cell? ⟨w.heap.size, 0, none⟩ = some a := fun a b => cell_of_row _ _ _ _ _ _ (hK a b)
  have hK1 : ∀ a b : Value, ((w2.setCell ⟨w.heap.size, 0, none⟩ a).setCell ⟨w.heap.size, 1, none⟩ b).cell? ⟨w.heap.size, 1, none⟩ = some b := fun a b => cell_of_row _ _ _ _ _ _ (hK a b)
  replace hK0 : Hid _ := hK0
  replace hK1 : Hid _ := hK1
  clear hK
  obtain ⟨ao, c, rfl, hr, -⟩ := hR2
  have hnb := hr.cap
  have hnm := hr.max
  clear hv hbx hb1 hb2 HS HF
  generalize hq : w.heap.size = q at *
  rcases hcase with ⟨hP, hMv⟩ | ⟨P, l, hP, hl, hMv⟩
  · have e0 : (prI R R.length).length = 0 := by rw [hP]; rfl
    rw [e0]
    subst hMv
    rcases (by omega : 0 ≤ f - 4 ∨ f - 4 < 0) with h0 | h0
    · go_wp2
      have hBV := hBs.out (.int .i64 (f - 4)) (.int .i64 n); have q0 := hK0.out (.int .i64 (f - 4)) (.int .i64 n); have q1 := hK1.out (.int .i64 (f - 4)) (.int .i64 n); generalize (w2.setCell ⟨q, 0, none⟩ (.int .i64 (f - 4))).setCell ⟨q, 1, none⟩ (.int .i64 n) = V at q0 q1 hBV ⊢; refine bodyPost_ret (v := .agg #[.int .i64 (f - 4), .int .i64 n]) (by simp [results, Try.results54, go_sem, q0, q1]) rfl ⟨by rw [show max (f - 4) 0 = f - 4 from by omega], by rw [hq]; exact hBV⟩
    · go_wp2
      have hBV := hBs.out (.int .i64 (0)) (.int .i64 n); have q0 := hK0.out (.int .i64 (0)) (.int .i64 n); have q1 := hK1.out (.int .i64 (0)) (.int .i64 n); generalize (w2.setCell ⟨q, 0, none⟩ (.int .i64 (0))).setCell ⟨q, 1, none⟩ (.int .i64 n) = V at q0 q1 hBV ⊢; refine bodyPost_ret (v := .agg #[.int .i64 (0), .int .i64 n]) (by simp [results, Try.results54, go_sem, q0, q1]) rfl ⟨by rw [show max (f - 4) 0 = 0 from by omega], by rw [hq]; exact hBV⟩
  · have e0 : (prI R R.length).length = P.length + 1 := by rw [hP]; simp
    rw [e0] at hr hnb ⊢
    rw [hP] at hr
    obtain ⟨b, o, rfl, hcc⟩ := hr.cells (by omega)
    have d0 := hcc P.length (by omega)
    rw [show nth (P ++ [(l : Int)]) P.length = (l : Int) from by simp [nth]] at d0
    obtain ⟨m, hm⟩ : ∃ m, P.length = m := ⟨_, rfl⟩
    rw [hm] at d0 hMv hnb ⊢
    have hml : m ≤ 62 := by rw [← hm]; omega
    have g1 : ((m : Int) + 1 == 0) = false := by simp; omega
    have g4 : (m : Int) + 1 - 1 = (m : Int) := by omega
    clear hr hcc e0 hP hm
    rcases hMv with ⟨rfl, rfl⟩ | ⟨hne, rfl⟩
    · have g2 : ((m : Int) == (m : Int)) = true := by simp
      rcases (by omega : 0 ≤ f - 4 ∨ f - 4 < 0) with h0 | h0
      · go_wp2
        have hBV := hBs.out (.int .i64 (f - 4)) (.int .i64 n); have q0 := hK0.out (.int .i64 (f - 4)) (.int .i64 n); have q1 := hK1.out (.int .i64 (f - 4)) (.int .i64 n); generalize (w2.setCell ⟨q, 0, none⟩ (.int .i64 (f - 4))).setCell ⟨q, 1, none⟩ (.int .i64 n) = V at q0 q1 hBV ⊢; refine bodyPost_ret (v := .agg #[.int .i64 (f - 4), .int .i64 n]) (by simp [results, Try.results54, go_sem, q0, q1]) rfl ⟨by rw [show max (f - 4) 0 = f - 4 from by omega], by rw [hq]; exact hBV⟩
      · go_wp2
        have hBV := hBs.out (.int .i64 (0)) (.int .i64 n); have q0 := hK0.out (.int .i64 (0)) (.int .i64 n); have q1 := hK1.out (.int .i64 (0)) (.int .i64 n); generalize (w2.setCell ⟨q, 0, none⟩ (.int .i64 (0))).setCell ⟨q, 1, none⟩ (.int .i64 n) = V at q0 q1 hBV ⊢; refine bodyPost_ret (v := .agg #[.int .i64 (0), .int .i64 n]) (by simp [results, Try.results54, go_sem, q0, q1]) rfl ⟨by rw [show max (f - 4) 0 = 0 from by omega], by rw [hq]; exact hBV⟩
    · have g2 : ((l : Int) == (m : Int)) = false := by simp; omega
      rcases (by omega : 0 ≤ f ∨ f < 0) with h0 | h0
      · go_wp2
        have hBV := hBs.out (.int .i64 (f)) (.int .i64 n); have q0 := hK0.out (.int .i64 (f)) (.int .i64 n); have q1 := hK1.out (.int .i64 (f)) (.int .i64 n); generalize (w2.setCell ⟨q, 0, none⟩ (.int .i64 (f))).setCell ⟨q, 1, none⟩ (.int .i64 n) = V at q0 q1 hBV ⊢; refine bodyPost_ret (v := .agg #[.int .i64 (f), .int .i64 n]) (by simp [results, Try.results54, go_sem, q0, q1]) rfl ⟨by rw [show max (f) 0 = f from by omega], by rw [hq]; exact hBV⟩
      · exact absurd h0 (by omega)

end Go.Proofs.Ytmfoenhbldacfaa
/- A heap in memory: what it is, and what keeps it. -/
namespace Go.Proofs.Ytmfoenhbldacfaa
open Go.RowKit
set_option linter.unusedVariables false
set_option linter.unusedSimpArgs false

abbrev Rc := List (List Int)
/-- What a heap is: its blocks, its maps, its list. -/
structure Hs where
  hb : Nat
  pm : Option Nat
  gm : Option Nat
  fv : Value
  nx : Nat
  P : List (Int × (Int × Nat))
  G : List (Int × (Nat × Rc))
  F : List (Int × Int)
def plV (p : Int × Nat) : Value := .agg #[.int .i64 p.1, .int .i64 (p.2 : Int)]
def ptV (p : Nat × Rc) : Value := .pointer (some ⟨p.1, 0, none⟩)
def MapO {α : Type} (B : Nat) (w : World) (ob : Option Nat) (q : IntKind) (f : α → Value) (L : List (Int × α)) : Prop :=
  (ob = none ∧ L = []) ∨ ∃ b, ob = some b ∧ B ≤ b ∧ MapB w b q f L
theorem MapO.keep {α : Type} {B : Nat} {w w' : World} {ob : Option Nat} {q : IntKind} {f : α → Value} {L : List (Int × α)} (h : MapO B w ob q f L) (k : ∀ b es c, B ≤ b → ob = some b → w.heap[b]? = some (.map es c) → w'.heap[b]? = w.heap[b]?) : MapO B w' ob q f L := by
  rcases h with h | ⟨b, h1, h2, h3⟩
  · exact .inl h
  · obtain ⟨es, c, e, _⟩ := h3.ex
    exact .inr ⟨b, h1, h2, h3.keep (k b es c h2 h1 e)⟩
/-- The heap's own kinds of blocks. -/
def Hy (o : Obj) : Prop := (∃ A, o = .cells A 46 (0, 0)) ∨ (∃ es c, o = .map es c) ∨ (∃ A, o = .cells A 66 (0, 0)) ∨ (∃ A, o = .cells A 69 (0, 0))
/-- The heap lies so in memory, from B on. -/
structure HI (B : Nat) (w : World) (H : Hs) : Prop where
  hdr : w.heap[H.hb]? = some (.cells #[.map H.pm, .map H.gm, H.fv, .int .i64 (H.nx : Int)] 46 (0, 0))
  bh : B ≤ H.hb
  pl : MapO B w H.pm .u64 plV H.P
  gl : MapO B w H.gm .i64 ptV H.G
  ne : ∀ b, H.pm = some b → H.gm = some b → False
  fr : OwnG B w H.fv H.F
  pg : ∀ n g R, (n, (g, R)) ∈ H.G → B ≤ g ∧ ∃ Bt, Pi w g Bt R allP
  nd : (H.G.map (·.2.1)).Nodup
  kg : (ks H.G).Nodup
  kp : (ks H.P).Nodup
  bw : B ≤ w.heap.size
theorem HI.keep {B : Nat} {w w' : World} {H : Hs} (h : HI B w H) (hs : w.heap.size ≤ w'.heap.size) (k : ∀ b o, B ≤ b → w.heap[b]? = some o → Hy o → w'.heap[b]? = w.heap[b]?) : HI B w' H where
  hdr := by rw [k _ _ h.bh h.hdr (.inl ⟨_, rfl⟩)]; exact h.hdr
  bh := h.bh
  pl := h.pl.keep fun b es c hb _ e => k b _ hb e (.inr (.inl ⟨_, _, rfl⟩))
  gl := h.gl.keep fun b es c hb _ e => k b _ hb e (.inr (.inl ⟨_, _, rfl⟩))
  ne := h.ne
  fr := h.fr.keep fun b A hb e => k b _ hb e (.inr (.inr (.inl ⟨_, rfl⟩)))
  pg n g R he := by
    obtain ⟨hg, Bt, hp⟩ := h.pg n g R he
    exact ⟨hg, Bt, ⟨by rw [k g _ hg hp.pg.row (.inr (.inr (.inr ⟨_, rfl⟩)))]; exact hp.pg.row⟩, hp.iv⟩
  nd := h.nd
  kg := h.kg
  kp := h.kp
  bw := Nat.le_trans h.bw hs
theorem HI.later {B : Nat} {w w' : World} {H : Hs} (h : HI B w H) (k : Below w.heap.size w w') : HI B w' H :=
  h.keep k.size fun b o _ e _ => k.block b (Array.getElem?_eq_some_iff.1 e).1
/-- Only the heap's own blocks, and those of X, have turned. -/
structure Ft (B : Nat) (X : Nat → Prop) (w w' : World) : Prop where
  os : w'.os = w.os
  tape : w'.tape = w.tape
  output : w'.output = w.output
  size : w.heap.size ≤ w'.heap.size
  block : ∀ k o, w.heap[k]? = some o → ¬ X k → (k < B ∨ ¬ Hy o) → w'.heap[k]? = some o
def noX : Nat → Prop := fun _ => False
theorem Ft.refl (B : Nat) (X : Nat → Prop) (w : World) : Ft B X w w := ⟨rfl, rfl, rfl, Nat.le_refl _, fun _ _ h _ _ => h⟩
theorem Ft.trans {B : Nat} {X : Nat → Prop} {a b c : World} (h : Ft B X a b) (k : Ft B X b c) : Ft B X a c :=
  ⟨k.os.trans h.os, k.tape.trans h.tape, k.output.trans h.output, Nat.le_trans h.size k.size, fun i o e hx hk => k.block i o (h.block i o e hx hk) hx hk⟩
theorem Ft.more {B : Nat} {X Y : Nat → Prop} {a b : World} (h : Ft B X a b) (k : ∀ i, X i → Y i) : Ft B Y a b :=
  ⟨h.os, h.tape, h.output, h.size, fun i o e hx hk => h.block i o e (fun hh => hx (k i hh)) hk⟩
theorem Ft.of {B : Nat} {X : Nat → Prop} {w w' : World} (h : Below w.heap.size w w') : Ft B X w w' :=
  ⟨h.os, h.tape, h.output, h.size, fun k o e _ _ => by rw [h.block k (Array.getElem?_eq_some_iff.1 e).1]; exact e⟩
theorem Ft.rest {B : Nat} {X : Nat → Prop} {w w' : World} {g : Nat} {o : Obj} (h : Rest g w w') (hg : B ≤ g) (ho : w.heap[g]? = some o) (hy : Hy o) : Ft B X w w' :=
  ⟨h.os, h.tape, h.output, h.size, fun k o' e _ hk => by
    rw [h.block k (Array.getElem?_eq_some_iff.1 e).1 (by
      rintro rfl
      rw [ho] at e
      cases e
      rcases hk with hk | hk
      · omega
      · exact hk hy)]
    exact e⟩
theorem Ft.restX {B : Nat} {X : Nat → Prop} {w w' : World} {g : Nat} (h : Rest g w w') (hg : X g) : Ft B X w w' :=
  ⟨h.os, h.tape, h.output, h.size, fun k o' e hx _ => by rw [h.block k (Array.getElem?_eq_some_iff.1 e).1 (by rintro rfl; exact hx hg)]; exact e⟩
theorem Ft.grown {B : Nat} {X : Nat → Prop} {w w' : World} {row : Option Nat} (h : w.grownBy w' row) (hr : ∀ g, row = some g → B ≤ g ∧ ∃ A, w.heap[g]? = some (.cells A 66 (0, 0))) : Ft B X w w' :=
  ⟨h.os, h.tape, h.output, h.size, fun k o e _ hk => by
    rw [h.block k (Array.getElem?_eq_some_iff.1 e).1 (by
      intro hk2
      obtain ⟨h1, A, h2⟩ := hr k hk2.symm
      rw [h2] at e
      cases e
      rcases hk with hk | hk
      · omega
      · exact hk (.inr (.inr (.inl ⟨_, rfl⟩))))]
    exact e⟩
theorem Ft.below {B : Nat} {a w w' : World} (h : Below B a w) (k : Ft B noX w w') (hw : B ≤ w.heap.size) : Below B a w' :=
  h.trans ⟨k.os, k.tape, k.output, k.size, fun i hi => by
    have hl : i < w.heap.size := by omega
    rw [k.block i _ (Array.getElem?_eq_getElem hl) (fun h => h) (.inl hi), Array.getElem?_eq_getElem hl]⟩

/-! ### The heap's own cells -/
theorem HI.cells {B : Nat} {w : World} {H : Hs} (h : HI B w H) : w.cell? ⟨H.hb, 0, none⟩ = some (.map H.pm) ∧ w.cell? ⟨H.hb, 1, none⟩ = some (.map H.gm) ∧ w.cell? ⟨H.hb, 2, none⟩ = some H.fv ∧ w.cell? ⟨H.hb, 3, none⟩ = some (.int .i64 (H.nx : Int)) :=
  ⟨cell_of_row _ _ _ _ _ _ h.hdr, cell_of_row _ _ _ _ _ _ h.hdr, cell_of_row _ _ _ _ _ _ h.hdr, cell_of_row _ _ _ _ _ _ h.hdr⟩
theorem HI.frozen {B : Nat} {w : World} {H : Hs} (h : HI B w H) (i : Nat) : w.frozen? ⟨H.hb, i, none⟩ = false := by
  unfold World.frozen?; rw [h.hdr]; rfl
theorem HI.lt {B : Nat} {w : World} {H : Hs} (h : HI B w H) : H.hb < w.heap.size := (Array.getElem?_eq_some_iff.1 h.hdr).1
theorem ob_ne {w : World} {a b : Nat} {o o' : Obj} (h : w.heap[a]? = some o) (k : w.heap[b]? = some o') (hne : o ≠ o') : a ≠ b := by
  rintro rfl
  rw [h] at k
  exact hne (Option.some.inj k)
theorem ty_ne {A A' : Array Value} {t t' : TypeId} (h : t ≠ t') : Obj.cells A t (0, 0) ≠ Obj.cells A' t' (0, 0) := fun e => h (by injection e)
/-- Another list of gaps, and its cell in the heap. -/
theorem HI.list {B : Nat} {w w' : World} {H : Hs} (h : HI B w H) {v : Value} {F : List (Int × Int)} (hg : w.grownBy w' H.fv.ownBlock) (hv : OwnG B w' v F) : HI B (w'.setCell ⟨H.hb, 2, none⟩ v) { H with fv := v, F := F } := by
  have hfb : ∀ g, H.fv.ownBlock = some g → ∃ A, w.heap[g]? = some (.cells A 66 (0, 0)) := fun g hg => by
    rcases h.fr.parts with ⟨e, _⟩ | ⟨g', cap, cur, e, _, h3, _⟩
    · rw [e] at hg; cases hg
    · rw [e] at hg; cases hg; exact ⟨_, h3⟩
  have hk : ∀ b o, w.heap[b]? = some o → (∀ A, o ≠ .cells A 66 (0, 0)) → b ≠ H.hb → (w'.setCell ⟨H.hb, 2, none⟩ v).heap[b]? = w.heap[b]? := fun b o e ho hb => by
    rw [Below.heap_setCell _ _ _ _ hb]
    refine hg.block b (Array.getElem?_eq_some_iff.1 e).1 fun e2 => ?_
    obtain ⟨A, e3⟩ := hfb b e2.symm
    rw [e] at e3
    exact ho A (Option.some.inj e3)
  have hd : w'.heap[H.hb]? = w.heap[H.hb]? := hg.block _ h.lt fun e2 => by
    obtain ⟨A, e3⟩ := hfb _ e2.symm
    rw [h.hdr] at e3
    exact absurd (Option.some.inj e3) (ty_ne (by decide))
  have hsz : (w'.setCell ⟨H.hb, 2, none⟩ v).heap.size = w'.heap.size := by simp [World.setCell]
  constructor
  · show (w'.setCell ⟨H.hb, 2, none⟩ v).heap[H.hb]? = _
    rw [h.hdr] at hd
    simp [World.setCell, Array.getElem?_modify, hd]
  · exact h.bh
  · exact h.pl.keep fun b es c _ _ e => hk b _ e (fun A => by intro hh; cases hh) (ob_ne e h.hdr (by intro hh; cases hh))
  · exact h.gl.keep fun b es c _ _ e => hk b _ e (fun A => by intro hh; cases hh) (ob_ne e h.hdr (by intro hh; cases hh))
  · exact h.ne
  · refine hv.keep fun b A _ e => Below.heap_setCell _ _ _ _ ?_
    rintro rfl
    show False
    have hb2 : w'.heap[H.hb]? = some (.cells A 66 (0, 0)) := e
    rw [hd, h.hdr] at hb2
    exact absurd (Option.some.inj hb2) (ty_ne (by decide))
  · intro n g R he
    obtain ⟨h1, Bt, hp⟩ := h.pg n g R he
    exact ⟨h1, Bt, ⟨by rw [hk g _ hp.pg.row (fun A => ty_ne (by decide)) (ob_ne hp.pg.row h.hdr (ty_ne (by decide)))]; exact hp.pg.row⟩, hp.iv⟩
  · exact h.nd
  · exact h.kg
  · exact h.kp
  · rw [hsz]; exact Nat.le_trans h.bw hg.size
theorem HI.ownb {B : Nat} {w : World} {H : Hs} (h : HI B w H) : ∀ g, H.fv.ownBlock = some g → B ≤ g ∧ ∃ A, w.heap[g]? = some (.cells A 66 (0, 0)) := fun g hg => by
  rcases h.fr.parts with ⟨e, _⟩ | ⟨g', cap, cur, e, h2, h3, _⟩
  · rw [e] at hg; cases hg
  · rw [e] at hg; cases hg; exact ⟨h2, _, h3⟩

end Go.Proofs.Ytmfoenhbldacfaa
