/- A heap in memory: what it is, and what keeps it. -/
import Derived.Test.YtmfoenhbldacfaaI7
namespace Go.Proofs.Ytmfoenhbldacfaa
open Go.RowKit
set_option linter.unusedVariables false
set_option linter.unusedSimpArgs false

abbrev Rc := List (List Int)
/-- What a heap is: its blocks, its maps, its list. -/
structure Hs where
  hb : Nat
  pm : Option Nat
  gm : Option Nat
  fv : Value
  nx : Nat
  P : List (Int × (Int × Nat))
  G : List (Int × (Nat × Rc))
  F : List (Int × Int)
def plV (p : Int × Nat) : Value := .agg #[.int .i64 p.1, .int .i64 (p.2 : Int)]
def ptV (p : Nat × Rc) : Value := .pointer (some ⟨p.1, 0, none⟩)
def MapO {α : Type} (B : Nat) (w : World) (ob : Option Nat) (q : IntKind) (f : α → Value) (L : List (Int × α)) : Prop :=
  (ob = none ∧ L = []) ∨ ∃ b, ob = some b ∧ B ≤ b ∧ MapB w b q f L
theorem MapO.keep {α : Type} {B : Nat} {w w' : World} {ob : Option Nat} {q : IntKind} {f : α → Value} {L : List (Int × α)} (h : MapO B w ob q f L) (k : ∀ b es c, B ≤ b → ob = some b → w.heap[b]? = some (.map es c) → w'.heap[b]? = w.heap[b]?) : MapO B w' ob q f L := by
  rcases h with h | ⟨b, h1, h2, h3⟩
  · exact .inl h
  · obtain ⟨es, c, e, _⟩ := h3.ex
    exact .inr ⟨b, h1, h2, h3.keep (k b es c h2 h1 e)⟩
/-- The heap's own kinds of blocks. -/
def Hy (o : Obj) : Prop := (∃ A, o = .cells A 46 (0, 0)) ∨ (∃ es c, o = .map es c) ∨ (∃ A, o = .cells A 66 (0, 0)) ∨ (∃ A, o = .cells A 69 (0, 0))
/-- The heap lies so in memory, from B on. -/
structure HI (B : Nat) (w : World) (H : Hs) : Prop where
  hdr : w.heap[H.hb]? = some (.cells #[.map H.pm, .map H.gm, H.fv, .int .i64 (H.nx : Int)] 46 (0, 0))
  bh : B ≤ H.hb
  pl : MapO B w H.pm .u64 plV H.P
  gl : MapO B w H.gm .i64 ptV H.G
  ne : ∀ b, H.pm = some b → H.gm = some b → False
  fr : OwnG B w H.fv H.F
  pg : ∀ n g R, (n, (g, R)) ∈ H.G → B ≤ g ∧ ∃ Bt, Pi w g Bt R allP
  nd : (H.G.map (·.2.1)).Nodup
  kg : (ks H.G).Nodup
  kp : (ks H.P).Nodup
  bw : B ≤ w.heap.size
theorem HI.keep {B : Nat} {w w' : World} {H : Hs} (h : HI B w H) (hs : w.heap.size ≤ w'.heap.size) (k : ∀ b o, B ≤ b → w.heap[b]? = some o → Hy o → w'.heap[b]? = w.heap[b]?) : HI B w' H where
  hdr := by rw [k _ _ h.bh h.hdr (.inl ⟨_, rfl⟩)]; exact h.hdr
  bh := h.bh
  pl := h.pl.keep fun b es c hb _ e => k b _ hb e (.inr (.inl ⟨_, _, rfl⟩))
  gl := h.gl.keep fun b es c hb _ e => k b _ hb e (.inr (.inl ⟨_, _, rfl⟩))
  ne := h.ne
  fr := h.fr.keep fun b A hb e => k b _ hb e (.inr (.inr (.inl ⟨_, rfl⟩)))
  pg n g R he := by
    obtain ⟨hg, Bt, hp⟩ := h.pg n g R he
    exact ⟨hg, Bt, ⟨by rw [k g _ hg hp.pg.row (.inr (.inr (.inr ⟨_, rfl⟩)))]; exact hp.pg.row⟩, hp.iv⟩
  nd := h.nd
  kg := h.kg
  kp := h.kp
  bw := Nat.le_trans h.bw hs
theorem HI.later {B : Nat} {w w' : World} {H : Hs} (h : HI B w H) (k : Below w.heap.size w w') : HI B w' H :=
  h.keep k.size fun b o _ e _ => k.block b (Array.getElem?_eq_some_iff.1 e).1
/-- Only the heap's own blocks, and those of X, have turned. -/
structure Ft (B : Nat) (X : Nat → Prop) (w w' : World) : Prop where
  os : w'.os = w.os
  tape : w'.tape = w.tape
  output : w'.output = w.output
  size : w.heap.size ≤ w'.heap.size
  block : ∀ k o, w.heap[k]? = some o → ¬ X k → (k < B ∨ ¬ Hy o) → w'.heap[k]? = some o
def noX : Nat → Prop := fun _ => False
theorem Ft.refl (B : Nat) (X : Nat → Prop) (w : World) : Ft B X w w := ⟨rfl, rfl, rfl, Nat.le_refl _, fun _ _ h _ _ => h⟩
theorem Ft.trans {B : Nat} {X : Nat → Prop} {a b c : World} (h : Ft B X a b) (k : Ft B X b c) : Ft B X a c :=
  ⟨k.os.trans h.os, k.tape.trans h.tape, k.output.trans h.output, Nat.le_trans h.size k.size, fun i o e hx hk => k.block i o (h.block i o e hx hk) hx hk⟩
theorem Ft.more {B : Nat} {X Y : Nat → Prop} {a b : World} (h : Ft B X a b) (k : ∀ i, X i → Y i) : Ft B Y a b :=
  ⟨h.os, h.tape, h.output, h.size, fun i o e hx hk => h.block i o e (fun hh => hx (k i hh)) hk⟩
theorem Ft.of {B : Nat} {X : Nat → Prop} {w w' : World} (h : Below w.heap.size w w') : Ft B X w w' :=
  ⟨h.os, h.tape, h.output, h.size, fun k o e _ _ => by rw [h.block k (Array.getElem?_eq_some_iff.1 e).1]; exact e⟩
theorem Ft.rest {B : Nat} {X : Nat → Prop} {w w' : World} {g : Nat} {o : Obj} (h : Rest g w w') (hg : B ≤ g) (ho : w.heap[g]? = some o) (hy : Hy o) : Ft B X w w' :=
  ⟨h.os, h.tape, h.output, h.size, fun k o' e _ hk => by
    rw [h.block k (Array.getElem?_eq_some_iff.1 e).1 (by
      rintro rfl
      rw [ho] at e
      cases e
      rcases hk with hk | hk
      · omega
      · exact hk hy)]
    exact e⟩
theorem Ft.restX {B : Nat} {X : Nat → Prop} {w w' : World} {g : Nat} (h : Rest g w w') (hg : X g) : Ft B X w w' :=
  ⟨h.os, h.tape, h.output, h.size, fun k o' e hx _ => by rw [h.block k (Array.getElem?_eq_some_iff.1 e).1 (by rintro rfl; exact hx hg)]; exact e⟩
theorem Ft.grown {B : Nat} {X : Nat → Prop} {w w' : World} {row : Option Nat} (h : w.grownBy w' row) (hr : ∀ g, row = some g → B ≤ g ∧ ∃ A, w.heap[g]? = some (.cells A 66 (0, 0))) : Ft B X w w' :=
  ⟨h.os, h.tape, h.output, h.size, fun k o e _ hk => by
    rw [h.block k (Array.getElem?_eq_some_iff.1 e).1 (by
      intro hk2
      obtain ⟨h1, A, h2⟩ := hr k hk2.symm
      rw [h2] at e
      cases e
      rcases hk with hk | hk
      · omega
      · exact hk (.inr (.inr (.inl ⟨_, rfl⟩))))]
    exact e⟩
theorem Ft.below {B : Nat} {a w w' : World} (h : Below B a w) (k : Ft B noX w w') (hw : B ≤ w.heap.size) : Below B a w' :=
  h.trans ⟨k.os, k.tape, k.output, k.size, fun i hi => by
    have hl : i < w.heap.size := by omega
    rw [k.block i _ (Array.getElem?_eq_getElem hl) (fun h => h) (.inl hi), Array.getElem?_eq_getElem hl]⟩

/-! ### The heap's own cells -/
theorem HI.cells {B : Nat} {w : World} {H : Hs} (h : HI B w H) : w.cell? ⟨H.hb, 0, none⟩ = some (.map H.pm) ∧ w.cell? ⟨H.hb, 1, none⟩ = some (.map H.gm) ∧ w.cell? ⟨H.hb, 2, none⟩ = some H.fv ∧ w.cell? ⟨H.hb, 3, none⟩ = some (.int .i64 (H.nx : Int)) :=
  ⟨cell_of_row _ _ _ _ _ _ h.hdr, cell_of_row _ _ _ _ _ _ h.hdr, cell_of_row _ _ _ _ _ _ h.hdr, cell_of_row _ _ _ _ _ _ h.hdr⟩
theorem HI.frozen {B : Nat} {w : World} {H : Hs} (h : HI B w H) (i : Nat) : w.frozen? ⟨H.hb, i, none⟩ = false := by
  unfold World.frozen?; rw [h.hdr]; rfl
theorem HI.lt {B : Nat} {w : World} {H : Hs} (h : HI B w H) : H.hb < w.heap.size := (Array.getElem?_eq_some_iff.1 h.hdr).1
theorem ob_ne {w : World} {a b : Nat} {o o' : Obj} (h : w.heap[a]? = some o) (k : w.heap[b]? = some o') (hne : o ≠ o') : a ≠ b := by
  rintro rfl
  rw [h] at k
  exact hne (Option.some.inj k)
theorem ty_ne {A A' : Array Value} {t t' : TypeId} (h : t ≠ t') : Obj.cells A t (0, 0) ≠ Obj.cells A' t' (0, 0) := fun e => h (by injection e)
/-- Another list of gaps, and its cell in the heap. -/
theorem HI.list {B : Nat} {w w' : World} {H : Hs} (h : HI B w H) {v : Value} {F : List (Int × Int)} (hg : w.grownBy w' H.fv.ownBlock) (hv : OwnG B w' v F) : HI B (w'.setCell ⟨H.hb, 2, none⟩ v) { H with fv := v, F := F } := by
  have hfb : ∀ g, H.fv.ownBlock = some g → ∃ A, w.heap[g]? = some (.cells A 66 (0, 0)) := fun g hg => by
    rcases h.fr.parts with ⟨e, _⟩ | ⟨g', cap, cur, e, _, h3, _⟩
    · rw [e] at hg; cases hg
    · rw [e] at hg; cases hg; exact ⟨_, h3⟩
  have hk : ∀ b o, w.heap[b]? = some o → (∀ A, o ≠ .cells A 66 (0, 0)) → b ≠ H.hb → (w'.setCell ⟨H.hb, 2, none⟩ v).heap[b]? = w.heap[b]? := fun b o e ho hb => by
    rw [Below.heap_setCell _ _ _ _ hb]
    refine hg.block b (Array.getElem?_eq_some_iff.1 e).1 fun e2 => ?_
    obtain ⟨A, e3⟩ := hfb b e2.symm
    rw [e] at e3
    exact ho A (Option.some.inj e3)
  have hd : w'.heap[H.hb]? = w.heap[H.hb]? := hg.block _ h.lt fun e2 => by
    obtain ⟨A, e3⟩ := hfb _ e2.symm
    rw [h.hdr] at e3
    exact absurd (Option.some.inj e3) (ty_ne (by decide))
  have hsz : (w'.setCell ⟨H.hb, 2, none⟩ v).heap.size = w'.heap.size := by simp [World.setCell]
  constructor
  · show (w'.setCell ⟨H.hb, 2, none⟩ v).heap[H.hb]? = _
    rw [h.hdr] at hd
    simp [World.setCell, Array.getElem?_modify, hd]
  · exact h.bh
  · exact h.pl.keep fun b es c _ _ e => hk b _ e (fun A => by intro hh; cases hh) (ob_ne e h.hdr (by intro hh; cases hh))
  · exact h.gl.keep fun b es c _ _ e => hk b _ e (fun A => by intro hh; cases hh) (ob_ne e h.hdr (by intro hh; cases hh))
  · exact h.ne
  · refine hv.keep fun b A _ e => Below.heap_setCell _ _ _ _ ?_
    rintro rfl
    show False
    have hb2 : w'.heap[H.hb]? = some (.cells A 66 (0, 0)) := e
    rw [hd, h.hdr] at hb2
    exact absurd (Option.some.inj hb2) (ty_ne (by decide))
  · intro n g R he
    obtain ⟨h1, Bt, hp⟩ := h.pg n g R he
    exact ⟨h1, Bt, ⟨by rw [hk g _ hp.pg.row (fun A => ty_ne (by decide)) (ob_ne hp.pg.row h.hdr (ty_ne (by decide)))]; exact hp.pg.row⟩, hp.iv⟩
  · exact h.nd
  · exact h.kg
  · exact h.kp
  · rw [hsz]; exact Nat.le_trans h.bw hg.size
theorem HI.ownb {B : Nat} {w : World} {H : Hs} (h : HI B w H) : ∀ g, H.fv.ownBlock = some g → B ≤ g ∧ ∃ A, w.heap[g]? = some (.cells A 66 (0, 0)) := fun g hg => by
  rcases h.fr.parts with ⟨e, _⟩ | ⟨g', cap, cur, e, h2, h3, _⟩
  · rw [e] at hg; cases hg
  · rw [e] at hg; cases hg; exact ⟨h2, _, h3⟩

end Go.Proofs.Ytmfoenhbldacfaa
