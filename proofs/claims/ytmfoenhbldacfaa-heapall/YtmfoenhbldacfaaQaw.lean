import Derived.Test.YtmfoenhbldacfaaQav
import Derived.RangeFuncNested
import Derived.RangeFuncLeaves
import Derived.WalkKit
/- A range over a function whose order nobody knows beforehand: an iterator by its states (out of Ra, the states in the place of the count). -/
namespace Go.Proofs.Ytmfoenhbldacfaa
open Go.RowKit
set_option linter.unusedVariables false
set_option linter.unusedSimpArgs false

/-- What a round may not touch, wherever it lies: all that is no cells, and the yields that iterators keep. -/
def prt : Obj → Bool
  | .cells _ _ _ => false
  | _ => true
theorem prt_non {o : Obj} (h : o.isCells = false) : prt o = true := by cases o <;> first | rfl | (simp [Obj.isCells] at h)
/-- What a round leaves as it was: all that the iterator had ahead of it, and of all from B on what it may not touch. -/
structure Kps (n B : Nat) (W W' : World) : Prop where
  low : Below n W W'
  oth : ∀ k o, B ≤ k → W.heap[k]? = some o → prt o = true → W'.heap[k]? = some o
theorem Kps.refl (n B : Nat) (W : World) : Kps n B W W := ⟨Below.refl _ _, fun _ _ _ h _ => h⟩
theorem Kps.trans {n B : Nat} {X Y Z : World} (h : Kps n B X Y) (k : Kps n B Y Z) : Kps n B X Z := ⟨h.low.trans k.low, fun i o hi hx hp => k.oth i o hi (h.oth i o hi hx hp) hp⟩
theorem Kps.mono {n B n' B' : Nat} {X Y : World} (h : Kps n B X Y) (hn : n' ≤ n) (hB : B ≤ B') : Kps n' B' X Y :=
  ⟨h.low.mono hn, fun k o hk => h.oth k o (Nat.le_trans hB hk)⟩
theorem Kps.of_below {n B : Nat} {X Y : World} (h : Below X.heap.size X Y) (hn : n ≤ X.heap.size) : Kps n B X Y :=
  ⟨h.mono hn, fun k o _ hk _ => (h.block k (Array.getElem?_eq_some_iff.1 hk).1).trans hk⟩
/-- A step that turns one block, of cells that may be touched. -/
theorem Kps.grown {n B : Nat} {X Y : World} {row : Option Nat} (hg : X.grownBy Y row) (hn : n ≤ X.heap.size) (hr : ∀ r, row = some r → n ≤ r ∧ ∀ o, X.heap[r]? = some o → prt o = false) : Kps n B X Y :=
  ⟨(Below.refl n X).grown hg hn fun k e => (hr k e).1, fun k o _ hk hp => (hg.block k (Array.getElem?_eq_some_iff.1 hk).1 fun e => by have := (hr k e.symm).2 o hk; rw [hp] at this; cases this).trans hk⟩
theorem Kps.setCell {n B : Nat} {X : World} (a : Addr) (v : Value) (hn : n ≤ a.block) (hr : ∀ o, X.heap[a.block]? = some o → prt o = false) : Kps n B X (X.setCell a v) :=
  ⟨(Below.refl n X).setCell hn v, fun k o _ hk hp => (Below.heap_setCell X a v k fun e => by subst e; rw [hr o hk] at hp; cases hp).trans hk⟩
/-- What an iterator leaves as it was, between two rounds: all below B, all cells. -/
structure Gr (B : Nat) (V W : World) : Prop where
  os : W.os = V.os
  tape : W.tape = V.tape
  output : W.output = V.output
  size : V.heap.size ≤ W.heap.size
  block : ∀ k o, V.heap[k]? = some o → (k < B ∨ o.isCells = true) → W.heap[k]? = some o
theorem Gr.refl (B : Nat) (V : World) : Gr B V V := ⟨rfl, rfl, rfl, Nat.le_refl _, fun _ _ h _ => h⟩
theorem Gr.trans {B : Nat} {X Y Z : World} (h : Gr B X Y) (k : Gr B Y Z) : Gr B X Z := ⟨k.os.trans h.os, k.tape.trans h.tape, k.output.trans h.output, Nat.le_trans h.size k.size, fun i o hi ho => k.block i o (h.block i o hi ho) ho⟩
theorem Gr.mono {B B' : Nat} {X Y : World} (h : Gr B X Y) (hB : B' ≤ B) : Gr B' X Y := ⟨h.os, h.tape, h.output, h.size, fun i o hi ho => h.block i o hi (ho.imp (fun x => Nat.lt_of_lt_of_le x hB) id)⟩
theorem Gr.of_below {B : Nat} {X Y : World} (h : Below X.heap.size X Y) : Gr B X Y := ⟨h.os, h.tape, h.output, h.size, fun i o hi _ => (h.block i (Array.getElem?_eq_some_iff.1 hi).1).trans hi⟩
theorem Gr.alloc {B : Nat} {X Y : World} (h : Gr B X Y) (o : Obj) : Gr B X (Y.alloc o) := h.trans (Gr.of_below ((Below.refl _ _).alloc (Nat.le_refl _) o))
theorem Gr.put {B : Nat} {X Y : World} (h : Gr B X Y) {l : Nat} {o : Obj} (o' : Obj) (hB : B ≤ l) (hl : Y.heap[l]? = some o) (ho : o.isCells = false) : Gr B X (Y.putObj l o') :=
  h.trans ⟨rfl, rfl, rfl, by simp, fun i p hi hp => by
    by_cases e : i = l
    · subst e
      rw [hl] at hi; cases hi
      rcases hp with hp | hp
      · omega
      · rw [ho] at hp; cases hp
    · exact (World.putObj_heap_other e).trans hi⟩
theorem Gr.below {B n : Nat} {X Y : World} (h : Gr B X Y) (hn : n ≤ B) (hx : n ≤ X.heap.size) : Below n X Y := ⟨h.os, h.tape, h.output, h.size, fun k hk => by
  have hk' : k < X.heap.size := by omega
  rw [Array.getElem?_eq_getElem hk']
  exact h.block k _ (Array.getElem?_eq_getElem hk') (.inl (by omega))⟩
theorem Gr.cell {B : Nat} {X Y : World} (h : Gr B X Y) {a : Addr} {v : Value} (hc : X.cell? a = some v) : Y.cell? a = some v ∧ Y.frozen? a = X.frozen? a := by
  have hb : a.block < X.heap.size := World.block_lt_of_cell? _ _ hc
  have ho : (X.heap[a.block]).isCells = true := by
    unfold World.cell? at hc
    rw [Array.getElem?_eq_getElem hb] at hc
    generalize X.heap[a.block] = o at *
    cases o <;> first | rfl | (simp at hc)
  have hk : Y.heap[a.block]? = X.heap[a.block]? := by
    rw [Array.getElem?_eq_getElem hb]
    exact h.block a.block _ (Array.getElem?_eq_getElem hb) (.inr ho)
  exact ⟨(World.cell?_of_block hk).trans hc, World.frozen?_of_block hk⟩
/-- An iterator that goes by states: from one to another it tells what A says, until it is at an end, whoever asks, as long as he keeps what there was. -/
def SeqS (P : Program) (g : Nat) (lb : Array Value) {St : Type} (A : St → St → Nat → World → Array Value → Prop) (s0 : St) (Fi : St → Prop) (w0 : World) : Prop :=
  ∀ (l : Nat) (J Jx : St → World → Prop) (W : World), Below w0.heap.size w0 W →
    (∀ k k' W1 W2 xs, J k W1 → Below w0.heap.size w0 W2 → Gr W.heap.size W1 W2 → A k k' W1.heap.size W2 xs → YieldAt Fence.wide 0 P l xs W2 fun e W' => Kps w0.heap.size W.heap.size W2 W' ∧ ((e = .returned (.bool true) ∧ J k' W') ∨ (e = .returned (.bool false) ∧ Jx k' W'))) →
    J s0 W → Calls P g (#[.func (.yield l) #[] #[]] ++ lb) W fun e W' => (∃ v, e = .returned v) ∧ Below w0.heap.size w0 W' ∧ ∃ W1, Gr W.heap.size W1 W' ∧ ((∃ s, Fi s ∧ J s W1) ∨ ∃ s, Jx s W1)
theorem kps_put {n : Nat} (W : World) {l : Nat} {o : Obj} (o' : Obj) (hn : n ≤ l) (hl : W.heap[l]? = some o) : Below n W (W.putObj l o') :=
  (Below.refl n W).grown (grownBy_putObj' W l o') (by have := (Array.getElem?_eq_some_iff.1 hl).1; omega) (fun k e => by cases e; exact hn)
/-- How a round may end. -/
def rndP {St : Type} (n B : Nat) (I : St → World → Prop) (Ix : Code → St → World → Prop) (k : St) (W : World) : Exit → Act → World → Prop
  | .normal, _, W' => Kps n B W W' ∧ I k W'
  | .ret, _, W' => Kps n B W W' ∧ Ix .ret k W'
  | .exit id, _, W' => Kps n B W W' ∧ Ix (.exit id) k W'
  | .goto t, _, W' => Kps n B W W' ∧ Ix (.goto t) k W'
  | _, _, _ => False
set_option maxRecDepth 10000 in
/-- The loop. -/
theorem range_s {P : Program} {g : Operand} {ps : Array Tmp} {assign body : Code} {Q : Exit → Act → World → Prop} {a : Act} {w : World} {gf : Nat} {lb : Array Value} {St : Type} {A : St → St → Nat → World → Array Value → Prop} {s0 : St} {Fi : St → Prop} {w0 : World}
    (hg : a.eval g = .func (.func gf) #[] lb) (eg : ∀ args w, (callFunc gf args).run P w = .ok (.enter gf args) w) (hseq : SeqS P gf lb A s0 Fi w0) (hb0 : Below w0.heap.size w0 w)
    (hA : ∀ {k k' s s' W W' xs}, A k k' s W xs → s' ≤ s → Gr 0 W W' → A k k' s' W' xs ∧ xs.size = ps.size)
    (I : St → World → Prop) (Ix : Code → St → World → Prop) (h0 : I s0 w) (a1 : Array Value → Act)
    (has : ∀ (l : Nat) (xs : Array Value) (W : World) (K : Act → World → Prop), (∃ k k' s V, A k k' s V xs) → K (a1 xs) W → assign.wpIn (Fence.wide.inRound l) 0 P (Exit.then K (fun _ _ _ => False)) { tmps := (ps.zip xs).foldl (fun t (p, v) => t.setIfInBounds p v) a.tmps, defers := [] } W)
    (hbo : ∀ (l : Nat) (k k' : St) (V W : World) (xs : Array Value), I k V → Gr w.heap.size V W → Below w0.heap.size w0 W → A k k' V.heap.size W xs → body.wpIn (Fence.wide.inRound l) 0 P (rndP w0.heap.size w.heap.size I Ix k' W) (a1 xs) W)
    (hdone : ∀ (D : Nat) (V W : World) (s : St), w.heap.size ≤ D → Fi s → I s V → Gr w.heap.size V W → Below w0.heap.size w0 W → W.heap[D]? = some (.deferred (some [])) → Q .normal { a with defers := { target := .collected D, args := #[] } :: a.defers } W)
    (hstop : ∀ (D : Nat) (c : Code) (k : St) (V W : World), w.heap.size ≤ D → Ix c k V → Gr w.heap.size V W → Below w0.heap.size w0 W → W.heap[D]? = some (.deferred (some [])) → c.wpIn Fence.wide 0 P Q { a with defers := { target := .collected D, args := #[] } :: a.defers } W) :
    (Code.rangeFunc g ps assign body).wpIn Fence.wide 0 P Q a w := by
  refine wpIn_rangeFunc fun fn _ => ?_
  obtain ⟨R, hR⟩ : ∃ R : LoopState → Option Code → Loop, R = fun st pe => ⟨st, pe, fn, a.tmps, ps, assign, body, w.heap.size⟩ := ⟨_, rfl⟩
  have rs : ∀ st pe, (R st pe).state = st := fun st pe => by rw [hR]
  have rp : ∀ st pe, (R st pe).pending = pe := fun st pe => by rw [hR]
  obtain ⟨X, hX⟩ : ∃ X, (w.alloc (.deferred (some []))).alloc (.loop (R .ready none)) = X := ⟨_, rfl⟩
  have hXs : X.heap.size = w.heap.size + 2 := by rw [← hX]; simp
  have hwX : Below w.heap.size w X := by rw [← hX]; exact ((Below.refl _ w).alloc (Nat.le_refl _) _).alloc (by simp) _
  have hXl : X.heap[w.heap.size + 1]? = some (.loop (R .ready none)) := by
    rw [← hX]
    have := World.alloc_heap_new (w.alloc (.deferred (some []))) (.loop (R .ready none))
    rwa [World.size_alloc] at this
  have hXd : X.heap[w.heap.size]? = some (.deferred (some [])) := by
    rw [← hX]; exact (Below.heap_alloc _ _ _ (by simp)).trans (World.alloc_heap_new w _)
  have hrun : (Instr.enterLoop fn a.tmps ps assign body none).run P w = .ok (w.heap.size + 1, [{ target := .collected w.heap.size, args := #[] }]) X := by
    rw [run_enterLoop_outer, ← hX, hR]
  refine ⟨w.heap.size + 1, [{ target := .collected w.heap.size, args := #[] }], X, { target := .fn (.func gf) lb, args := #[.func (.yield (w.heap.size + 1)) #[] #[]] }, X, gf, #[.func (.yield (w.heap.size + 1)) #[] #[]] ++ lb, X, hrun, ?_, fun _ _ => trivial, ?_, fun h => by simp [Fence.wide] at h, ?_⟩
  · simp only [resolve, hg]
    simp [go_sem]
  · simp [invoke, go_sem, eg]
  have two : ∀ {Y Z : World}, Gr X.heap.size Y Z → ∀ {i : Nat} {o : Obj}, i < X.heap.size → Y.heap[i]? = some o → Z.heap[i]? = some o := fun hgr i o hi hy => hgr.block i o hy (.inl hi)
  have hw0 := hb0.size
  refine callsIn_wide.2 ((hseq (w.heap.size + 1)
    (fun k W => (∃ V, I k V ∧ Gr w.heap.size V W) ∧ W.heap[w.heap.size + 1]? = some (.loop (R .ready none)) ∧ W.heap[w.heap.size]? = some (.deferred (some [])))
    (fun k W => ∃ c, (∃ V, Ix c k V ∧ Gr w.heap.size V W) ∧ W.heap[w.heap.size + 1]? = some (.loop (R .done (some c))) ∧ W.heap[w.heap.size]? = some (.deferred (some [])))
    X (hb0.trans (hwX.mono hb0.size)) ?_ ⟨⟨w, h0, Gr.of_below hwX⟩, hXl, hXd⟩).mono ?_)
  · rintro k k' W1 W xs ⟨⟨V, hi, hV⟩, hl1, hd1⟩ hbW hgr hAx
    have hl := two hgr (by omega) hl1
    have hd := two hgr (by omega) hd1
    have hy := run_yield (P := P) (args := xs) hl (by rw [hR]; exact (hA hAx (Nat.le_refl _) (Gr.refl _ _)).2)
    obtain ⟨Y, hY⟩ : ∃ Y, W.putObj (w.heap.size + 1) (.loop (R .busy none)) = Y := ⟨_, rfl⟩
    have hbeg : (Instr.beginRound (w.heap.size + 1)).run P W = .ok () Y := by
      rw [run_beginRound hl (rs _ _), ← hY]
      exact congrArg (fun r => Result.ok () (W.putObj (w.heap.size + 1) (.loop r))) (by rw [hR])
    have hll : w.heap.size + 1 < W.heap.size := (Array.getElem?_eq_some_iff.1 hl).1
    have hYl : Y.heap[w.heap.size + 1]? = some (.loop (R .busy none)) := by rw [← hY]; exact World.putObj_heap_same hll
    have hYd : Y.heap[w.heap.size]? = some (.deferred (some [])) := by rw [← hY]; exact (World.putObj_heap_other (by omega)).trans hd
    have hWY : Below w0.heap.size W Y := by rw [← hY]; exact kps_put W _ (by omega) hl
    have hWG : Gr w.heap.size W Y := by rw [← hY]; exact (Gr.refl _ _).put _ (by omega) hl rfl
    have hsY : Y.heap.size = W.heap.size := by rw [← hY]; simp
    rw [hR] at hy
    refine ⟨fn, _, assign, body, hy, roundIn_of_wpIn trivial (has _ xs W _ ⟨_, _, _, _, hAx⟩ ⟨Y, hbeg, ?_⟩)⟩
    refine wpIn_mono (hbo _ k k' V Y xs hi ((hV.trans (hgr.mono (by omega))).trans hWG) (hbW.trans hWY) (hA hAx hV.size (hWG.mono (Nat.zero_le _))).1) ?_
    -- the end of a round, whichever
    have fin : ∀ (j : Option Code) (Z : World), Kps w0.heap.size w.heap.size Y Z → ∃ U, (Instr.endRound (w.heap.size + 1) j).run P Z = .ok (.bool j.isNone) U ∧ Gr w.heap.size Z U ∧
        Kps w0.heap.size X.heap.size W U ∧ U.heap[w.heap.size + 1]? = some (.loop (R (if j.isNone then .ready else .done) j)) ∧ U.heap[w.heap.size]? = some (.deferred (some [])) := fun j Z hz => by
      have hZl := hz.oth _ _ (by omega) hYl rfl
      have hZd := hz.oth _ _ (Nat.le_refl _) hYd rfl
      have hlz : w.heap.size + 1 < Z.heap.size := (Array.getElem?_eq_some_iff.1 hZl).1
      refine ⟨_, (run_endRound j hZl).trans (congrArg (fun r => Result.ok (Value.bool j.isNone) (Z.putObj (w.heap.size + 1) (.loop r))) (by rw [hR])), (Gr.refl _ _).put _ (by omega) hZl rfl, ⟨(hWY.trans hz.low).trans (kps_put Z _ (by omega) hZl), ?_⟩, World.putObj_heap_same hlz, (World.putObj_heap_other (by omega)).trans hZd⟩
      · intro i o hi ho hc
        have hne : i ≠ w.heap.size + 1 := by omega
        rw [World.putObj_heap_other hne]
        refine hz.oth i o (by omega) ?_ hc
        rw [← hY, World.putObj_heap_other hne]; exact ho
    rintro e b Z hp
    cases e with
    | normal =>
      obtain ⟨U, hr, hU, hkp, hl', hd'⟩ := fin none Z hp.1
      exact ⟨_, U, hr, hkp, .inl ⟨rfl, ⟨Z, hp.2, hU⟩, hl', hd'⟩⟩
    | ret =>
      obtain ⟨U, hr, hU, hkp, hl', hd'⟩ := fin (some .ret) Z hp.1
      exact ⟨_, U, hr, hkp, .inr ⟨rfl, _, ⟨Z, hp.2, hU⟩, hl', hd'⟩⟩
    | exit id =>
      obtain ⟨U, hr, hU, hkp, hl', hd'⟩ := fin (some (.exit id)) Z hp.1
      exact ⟨_, U, hr, hkp, .inr ⟨rfl, _, ⟨Z, hp.2, hU⟩, hl', hd'⟩⟩
    | goto t =>
      obtain ⟨U, hr, hU, hkp, hl', hd'⟩ := fin (some (.goto t)) Z hp.1
      exact ⟨_, U, hr, hkp, .inr ⟨rfl, _, ⟨Z, hp.2, hU⟩, hl', hd'⟩⟩
    | panic ch => exact hp.elim
    | outgrown => exact hp.elim
  · rintro e Z ⟨⟨v, rfl⟩, hbZ, W1, hG, ⟨s, hF, ⟨V, hi, hV⟩, hl1, hd1⟩ | ⟨k, c, ⟨V, hi, hV⟩, hl1, hd1⟩⟩
    · have hl := two hG (by omega) hl1
      have hd := two hG (by omega) hd1
      refine ⟨none, _, (run_endLoop hl (by rw [rs]; simp)).trans (by rw [rp]), ?_⟩
      exact hdone _ V _ s (Nat.le_refl _) hF hi ((hV.trans (hG.mono (by omega))).put _ (by omega) hl rfl) (hbZ.trans (kps_put Z _ (by omega) hl)) ((World.putObj_heap_other (by omega)).trans hd)
    · have hl := two hG (by omega) hl1
      have hd := two hG (by omega) hd1
      refine ⟨some c, _, (run_endLoop hl (by rw [rs]; simp)).trans (by rw [rp]), ?_⟩
      exact hstop _ c k V _ (Nat.le_refl _) hi ((hV.trans (hG.mono (by omega))).put _ (by omega) hl rfl) (hbZ.trans (kps_put Z _ (by omega) hl)) ((World.putObj_heap_other (by omega)).trans hd)

end Go.Proofs.Ytmfoenhbldacfaa
