import Derived.RangeFuncNested
import Derived.RangeFuncLeaves
import Derived.WalkKit
import Derived.Test.YtnlaaejdianfjabGreatQpah
import Derived.Shelf.Abstract
import Derived.OwnWalkIn
import Derived.TacticsInMore
import Derived.LoopNIn
import Derived.LoopIn
import Derived.Test.YtnlaaejdianfjabGreatQpaf
namespace Go.Proofs.YtnlaaejdianfjabGreat
open Go.RowKit
set_option linter.unusedVariables false
set_option linter.unusedSimpArgs false

/-- What a round may not touch, wherever it lies: all that is no cells, and the yields that iterators keep. -/
def prt : Obj → Bool
  | .cells _ t _ => decide (t = 83)
  | _ => true
/-- What a round leaves as it was: all that the iterator had ahead of it, and of all from B on what it may not touch. -/
structure Kps (n B : Nat) (W W' : World) : Prop where
  low : Below n W W'
  oth : ∀ k o, B ≤ k → W.heap[k]? = some o → prt o = true → W'.heap[k]? = some o
theorem Kps.trans {n B : Nat} {X Y Z : World} (h : Kps n B X Y) (k : Kps n B Y Z) : Kps n B X Z := ⟨h.low.trans k.low, fun i o hi hx hp => k.oth i o hi (h.oth i o hi hx hp) hp⟩
theorem Kps.mono {n B n' B' : Nat} {X Y : World} (h : Kps n B X Y) (hn : n' ≤ n) (hB : B ≤ B') : Kps n' B' X Y :=
  ⟨h.low.mono hn, fun k o hk => h.oth k o (Nat.le_trans hB hk)⟩
theorem Kps.of_below {n B : Nat} {X Y : World} (h : Below X.heap.size X Y) (hn : n ≤ X.heap.size) : Kps n B X Y :=
  ⟨h.mono hn, fun k o _ hk _ => (h.block k (Array.getElem?_eq_some_iff.1 hk).1).trans hk⟩
/-- A step that turns one block, of cells that may be touched. -/
theorem Kps.grown {n B : Nat} {X Y : World} {row : Option Nat} (hg : X.grownBy Y row) (hn : n ≤ X.heap.size) (hr : ∀ r, row = some r → n ≤ r ∧ ∀ o, X.heap[r]? = some o → prt o = false) : Kps n B X Y :=
  ⟨(Below.refl n X).grown hg hn fun k e => (hr k e).1, fun k o _ hk hp => (hg.block k (Array.getElem?_eq_some_iff.1 hk).1 fun e => by have := (hr k e.symm).2 o hk; rw [hp] at this; cases this).trans hk⟩
theorem Kps.setCell {n B : Nat} {X : World} (a : Addr) (v : Value) (hn : n ≤ a.block) (hr : ∀ o, X.heap[a.block]? = some o → prt o = false) : Kps n B X (X.setCell a v) :=
  ⟨(Below.refl n X).setCell hn v, fun k o _ hk hp => (Below.heap_setCell X a v k fun e => by subst e; rw [hr o hk] at hp; cases hp).trans hk⟩
/-- What an iterator leaves as it was, between two rounds: all below B, all cells. -/
structure Gr (B : Nat) (V W : World) : Prop where
  os : W.os = V.os
  tape : W.tape = V.tape
  output : W.output = V.output
  size : V.heap.size ≤ W.heap.size
  block : ∀ k o, V.heap[k]? = some o → (k < B ∨ o.isCells = true) → W.heap[k]? = some o
theorem Gr.refl (B : Nat) (V : World) : Gr B V V := ⟨rfl, rfl, rfl, Nat.le_refl _, fun _ _ h _ => h⟩
theorem Gr.trans {B : Nat} {X Y Z : World} (h : Gr B X Y) (k : Gr B Y Z) : Gr B X Z := ⟨k.os.trans h.os, k.tape.trans h.tape, k.output.trans h.output, Nat.le_trans h.size k.size, fun i o hi ho => k.block i o (h.block i o hi ho) ho⟩
theorem Gr.mono {B B' : Nat} {X Y : World} (h : Gr B X Y) (hB : B' ≤ B) : Gr B' X Y := ⟨h.os, h.tape, h.output, h.size, fun i o hi ho => h.block i o hi (ho.imp (fun x => Nat.lt_of_lt_of_le x hB) id)⟩
theorem Gr.of_below {B : Nat} {X Y : World} (h : Below X.heap.size X Y) : Gr B X Y := ⟨h.os, h.tape, h.output, h.size, fun i o hi _ => (h.block i (Array.getElem?_eq_some_iff.1 hi).1).trans hi⟩
theorem Gr.put {B : Nat} {X Y : World} (h : Gr B X Y) {l : Nat} {o : Obj} (o' : Obj) (hB : B ≤ l) (hl : Y.heap[l]? = some o) (ho : o.isCells = false) : Gr B X (Y.putObj l o') :=
  h.trans ⟨rfl, rfl, rfl, by simp, fun i p hi hp => by
    by_cases e : i = l
    · subst e
      rw [hl] at hi; cases hi
      rcases hp with hp | hp
      · omega
      · rw [ho] at hp; cases hp
    · exact (World.putObj_heap_other e).trans hi⟩
theorem Gr.below {B n : Nat} {X Y : World} (h : Gr B X Y) (hn : n ≤ B) (hx : n ≤ X.heap.size) : Below n X Y := ⟨h.os, h.tape, h.output, h.size, fun k hk => by
  have hk' : k < X.heap.size := by omega
  rw [Array.getElem?_eq_getElem hk']
  exact h.block k _ (Array.getElem?_eq_getElem hk') (.inl (by omega))⟩
theorem Gr.cell {B : Nat} {X Y : World} (h : Gr B X Y) {a : Addr} {v : Value} (hc : X.cell? a = some v) : Y.cell? a = some v ∧ Y.frozen? a = X.frozen? a := by
  have hb : a.block < X.heap.size := World.block_lt_of_cell? _ _ hc
  have ho : (X.heap[a.block]).isCells = true := by
    unfold World.cell? at hc
    rw [Array.getElem?_eq_getElem hb] at hc
    generalize X.heap[a.block] = o at *
    cases o <;> first | rfl | (simp at hc)
  have hk : Y.heap[a.block]? = X.heap[a.block]? := by
    rw [Array.getElem?_eq_getElem hb]
    exact h.block a.block _ (Array.getElem?_eq_getElem hb) (.inr ho)
  exact ⟨(World.cell?_of_block hk).trans hc, World.frozen?_of_block hk⟩
/-- An iterator that tells N things, the k-th such as A says, whoever asks, as long as he keeps what there was. -/
def SeqW (P : Program) (g : Nat) (lb : Array Value) (N : Nat) (A : Nat → Nat → World → Array Value → Prop) (w0 : World) : Prop :=
  ∀ (l : Nat) (J Jx : Nat → World → Prop) (W : World), Below w0.heap.size w0 W →
    (∀ k W1 W2 xs, k < N → J k W1 → Below w0.heap.size w0 W2 → Gr W.heap.size W1 W2 → A k W1.heap.size W2 xs → YieldAt Fence.wide 0 P l xs W2 fun e W' => Kps w0.heap.size W.heap.size W2 W' ∧ ((e = .returned (.bool true) ∧ J (k + 1) W') ∨ (e = .returned (.bool false) ∧ Jx (k + 1) W'))) →
    J 0 W → Calls P g (#[.func (.yield l) #[] #[]] ++ lb) W fun e W' => (∃ v, e = .returned v) ∧ Below w0.heap.size w0 W' ∧ ∃ W1, Gr W.heap.size W1 W' ∧ (J N W1 ∨ ∃ k, k ≤ N ∧ Jx k W1)
theorem kps_put {n : Nat} (W : World) {l : Nat} {o : Obj} (o' : Obj) (hn : n ≤ l) (hl : W.heap[l]? = some o) : Below n W (W.putObj l o') :=
  (Below.refl n W).grown (grownBy_putObj' W l o') (by have := (Array.getElem?_eq_some_iff.1 hl).1; omega) (fun k e => by cases e; exact hn)
/-- How a round may end. -/
def rndP (n B : Nat) (I : Nat → World → Prop) (Ix : Code → Nat → World → Prop) (k : Nat) (W : World) : Exit → Act → World → Prop
  | .normal, _, W' => Kps n B W W' ∧ I k W'
  | .ret, _, W' => Kps n B W W' ∧ Ix .ret k W'
  | .exit id, _, W' => Kps n B W W' ∧ Ix (.exit id) k W'
  | .goto t, _, W' => Kps n B W W' ∧ Ix (.goto t) k W'
  | _, _, _ => False
set_option maxRecDepth 10000 in
/-- The loop. -/
theorem range_any {P : Program} {g : Operand} {ps : Array Tmp} {assign body : Code} {Q : Exit → Act → World → Prop} {a : Act} {w : World} {gf : Nat} {lb : Array Value} {N : Nat} {A : Nat → Nat → World → Array Value → Prop} {w0 : World}
    (hg : a.eval g = .func (.func gf) #[] lb) (eg : ∀ args w, (callFunc gf args).run P w = .ok (.enter gf args) w) (hseq : SeqW P gf lb N A w0) (hb0 : Below w0.heap.size w0 w)
    (hA : ∀ {k s s' W W' xs}, A k s W xs → s' ≤ s → Gr 0 W W' → A k s' W' xs ∧ xs.size = ps.size)
    (I : Nat → World → Prop) (Ix : Code → Nat → World → Prop) (h0 : I 0 w) (a1 : Array Value → Act)
    (has : ∀ (l : Nat) (xs : Array Value) (W : World) (K : Act → World → Prop), (∃ k s V, A k s V xs) → K (a1 xs) W → assign.wpIn (Fence.wide.inRound l) 0 P (Exit.then K (fun _ _ _ => False)) { tmps := (ps.zip xs).foldl (fun t (p, v) => t.setIfInBounds p v) a.tmps, defers := [] } W)
    (hbo : ∀ (l k : Nat) (V W : World) (xs : Array Value), k < N → I k V → Gr w.heap.size V W → Below w0.heap.size w0 W → A k V.heap.size W xs → body.wpIn (Fence.wide.inRound l) 0 P (rndP w0.heap.size w.heap.size I Ix (k + 1) W) (a1 xs) W)
    (hdone : ∀ (D : Nat) (V W : World), w.heap.size ≤ D → I N V → Gr w.heap.size V W → Below w0.heap.size w0 W → W.heap[D]? = some (.deferred (some [])) → Q .normal { a with defers := { target := .collected D, args := #[] } :: a.defers } W)
    (hstop : ∀ (D : Nat) (c : Code) (k : Nat) (V W : World), w.heap.size ≤ D → k ≤ N → Ix c k V → Gr w.heap.size V W → Below w0.heap.size w0 W → W.heap[D]? = some (.deferred (some [])) → c.wpIn Fence.wide 0 P Q { a with defers := { target := .collected D, args := #[] } :: a.defers } W) :
    (Code.rangeFunc g ps assign body).wpIn Fence.wide 0 P Q a w := by
  refine wpIn_rangeFunc fun fn _ => ?_
  obtain ⟨R, hR⟩ : ∃ R : LoopState → Option Code → Loop, R = fun st pe => ⟨st, pe, fn, a.tmps, ps, assign, body, w.heap.size⟩ := ⟨_, rfl⟩
  have rs : ∀ st pe, (R st pe).state = st := fun st pe => by rw [hR]
  have rp : ∀ st pe, (R st pe).pending = pe := fun st pe => by rw [hR]
  obtain ⟨X, hX⟩ : ∃ X, (w.alloc (.deferred (some []))).alloc (.loop (R .ready none)) = X := ⟨_, rfl⟩
  have hXs : X.heap.size = w.heap.size + 2 := by rw [← hX]; simp
  have hwX : Below w.heap.size w X := by rw [← hX]; exact ((Below.refl _ w).alloc (Nat.le_refl _) _).alloc (by simp) _
  have hXl : X.heap[w.heap.size + 1]? = some (.loop (R .ready none)) := by
    rw [← hX]
    have := World.alloc_heap_new (w.alloc (.deferred (some []))) (.loop (R .ready none))
    rwa [World.size_alloc] at this
  have hXd : X.heap[w.heap.size]? = some (.deferred (some [])) := by
    rw [← hX]; exact (Below.heap_alloc _ _ _ (by simp)).trans (World.alloc_heap_new w _)
  have hrun : (Instr.enterLoop fn a.tmps ps assign body none).run P w = .ok (w.heap.size + 1, [{ target := .collected w.heap.size, args := #[] }]) X := by
    rw [run_enterLoop_outer, ← hX, hR]
  refine ⟨w.heap.size + 1, [{ target := .collected w.heap.size, args := #[] }], X, { target := .fn (.func gf) lb, args := #[.func (.yield (w.heap.size + 1)) #[] #[]] }, X, gf, #[.func (.yield (w.heap.size + 1)) #[] #[]] ++ lb, X, hrun, ?_, fun _ _ => trivial, ?_, fun h => by simp [Fence.wide] at h, ?_⟩
  · simp only [resolve, hg]
    simp [go_sem]
  · simp [invoke, go_sem, eg]
  have two : ∀ {Y Z : World}, Gr X.heap.size Y Z → ∀ {i : Nat} {o : Obj}, i < X.heap.size → Y.heap[i]? = some o → Z.heap[i]? = some o := fun hgr i o hi hy => hgr.block i o hy (.inl hi)
  have hw0 := hb0.size
  refine callsIn_wide.2 ((hseq (w.heap.size + 1)
    (fun k W => (∃ V, I k V ∧ Gr w.heap.size V W) ∧ W.heap[w.heap.size + 1]? = some (.loop (R .ready none)) ∧ W.heap[w.heap.size]? = some (.deferred (some [])))
    (fun k W => ∃ c, (∃ V, Ix c k V ∧ Gr w.heap.size V W) ∧ W.heap[w.heap.size + 1]? = some (.loop (R .done (some c))) ∧ W.heap[w.heap.size]? = some (.deferred (some [])))
    X (hb0.trans (hwX.mono hb0.size)) ?_ ⟨⟨w, h0, Gr.of_below hwX⟩, hXl, hXd⟩).mono ?_)
  · rintro k W1 W xs hk ⟨⟨V, hi, hV⟩, hl1, hd1⟩ hbW hgr hAx
    have hl := two hgr (by omega) hl1
    have hd := two hgr (by omega) hd1
    have hy := run_yield (P := P) (args := xs) hl (by rw [hR]; exact (hA hAx (Nat.le_refl _) (Gr.refl _ _)).2)
    obtain ⟨Y, hY⟩ : ∃ Y, W.putObj (w.heap.size + 1) (.loop (R .busy none)) = Y := ⟨_, rfl⟩
    have hbeg : (Instr.beginRound (w.heap.size + 1)).run P W = .ok () Y := by
      rw [run_beginRound hl (rs _ _), ← hY]
      exact congrArg (fun r => Result.ok () (W.putObj (w.heap.size + 1) (.loop r))) (by rw [hR])
    have hll : w.heap.size + 1 < W.heap.size := (Array.getElem?_eq_some_iff.1 hl).1
    have hYl : Y.heap[w.heap.size + 1]? = some (.loop (R .busy none)) := by rw [← hY]; exact World.putObj_heap_same hll
    have hYd : Y.heap[w.heap.size]? = some (.deferred (some [])) := by rw [← hY]; exact (World.putObj_heap_other (by omega)).trans hd
    have hWY : Below w0.heap.size W Y := by rw [← hY]; exact kps_put W _ (by omega) hl
    have hWG : Gr w.heap.size W Y := by rw [← hY]; exact (Gr.refl _ _).put _ (by omega) hl rfl
    have hsY : Y.heap.size = W.heap.size := by rw [← hY]; simp
    rw [hR] at hy
    refine ⟨fn, _, assign, body, hy, roundIn_of_wpIn trivial (has _ xs W _ ⟨_, _, _, hAx⟩ ⟨Y, hbeg, ?_⟩)⟩
    refine wpIn_mono (hbo _ k V Y xs hk hi ((hV.trans (hgr.mono (by omega))).trans hWG) (hbW.trans hWY) (hA hAx hV.size (hWG.mono (Nat.zero_le _))).1) ?_
    -- the end of a round, whichever
    have fin : ∀ (j : Option Code) (Z : World), Kps w0.heap.size w.heap.size Y Z → ∃ U, (Instr.endRound (w.heap.size + 1) j).run P Z = .ok (.bool j.isNone) U ∧ Gr w.heap.size Z U ∧
        Kps w0.heap.size X.heap.size W U ∧ U.heap[w.heap.size + 1]? = some (.loop (R (if j.isNone then .ready else .done) j)) ∧ U.heap[w.heap.size]? = some (.deferred (some [])) := fun j Z hz => by
      have hZl := hz.oth _ _ (by omega) hYl rfl
      have hZd := hz.oth _ _ (Nat.le_refl _) hYd rfl
      have hlz : w.heap.size + 1 < Z.heap.size := (Array.getElem?_eq_some_iff.1 hZl).1
      refine ⟨_, (run_endRound j hZl).trans (congrArg (fun r => Result.ok (Value.bool j.isNone) (Z.putObj (w.heap.size + 1) (.loop r))) (by rw [hR])), (Gr.refl _ _).put _ (by omega) hZl rfl, ⟨(hWY.trans hz.low).trans (kps_put Z _ (by omega) hZl), ?_⟩, World.putObj_heap_same hlz, (World.putObj_heap_other (by omega)).trans hZd⟩
      · intro i o hi ho hc
        have hne : i ≠ w.heap.size + 1 := by omega
        rw [World.putObj_heap_other hne]
        refine hz.oth i o (by omega) ?_ hc
        rw [← hY, World.putObj_heap_other hne]; exact ho
    rintro e b Z hp
    cases e with
    | normal =>
      obtain ⟨U, hr, hU, hkp, hl', hd'⟩ := fin none Z hp.1
      exact ⟨_, U, hr, hkp, .inl ⟨rfl, ⟨Z, hp.2, hU⟩, hl', hd'⟩⟩
    | ret =>
      obtain ⟨U, hr, hU, hkp, hl', hd'⟩ := fin (some .ret) Z hp.1
      exact ⟨_, U, hr, hkp, .inr ⟨rfl, _, ⟨Z, hp.2, hU⟩, hl', hd'⟩⟩
    | exit id =>
      obtain ⟨U, hr, hU, hkp, hl', hd'⟩ := fin (some (.exit id)) Z hp.1
      exact ⟨_, U, hr, hkp, .inr ⟨rfl, _, ⟨Z, hp.2, hU⟩, hl', hd'⟩⟩
    | goto t =>
      obtain ⟨U, hr, hU, hkp, hl', hd'⟩ := fin (some (.goto t)) Z hp.1
      exact ⟨_, U, hr, hkp, .inr ⟨rfl, _, ⟨Z, hp.2, hU⟩, hl', hd'⟩⟩
    | panic ch => exact hp.elim
    | outgrown => exact hp.elim
  · rintro e Z ⟨⟨v, rfl⟩, hbZ, W1, hG, ⟨⟨V, hi, hV⟩, hl1, hd1⟩ | ⟨k, hk, c, ⟨V, hi, hV⟩, hl1, hd1⟩⟩
    · have hl := two hG (by omega) hl1
      have hd := two hG (by omega) hd1
      refine ⟨none, _, (run_endLoop hl (by rw [rs]; simp)).trans (by rw [rp]), ?_⟩
      exact hdone _ V _ (Nat.le_refl _) hi ((hV.trans (hG.mono (by omega))).put _ (by omega) hl rfl) (hbZ.trans (kps_put Z _ (by omega) hl)) ((World.putObj_heap_other (by omega)).trans hd)
    · have hl := two hG (by omega) hl1
      have hd := two hG (by omega) hd1
      refine ⟨some c, _, (run_endLoop hl (by rw [rs]; simp)).trans (by rw [rp]), ?_⟩
      exact hstop _ c k V _ (Nat.le_refl _) hk hi ((hV.trans (hG.mono (by omega))).put _ (by omega) hl rfl) (hbZ.trans (kps_put Z _ (by omega) hl)) ((World.putObj_heap_other (by omega)).trans hd)
theorem SeqW.later {P : Program} {g : Nat} {lb : Array Value} {N : Nat} {A : Nat → Nat → World → Array Value → Prop} {w w' : World} (h : SeqW P g lb N A w) (hb : Below w.heap.size w w') : SeqW P g lb N A w' :=
  fun l J Jx W hW hY h0 => by
    refine (h l (fun k W1 => J k W1 ∧ Below w'.heap.size w' W1) (fun k W1 => Jx k W1 ∧ Below w'.heap.size w' W1) W (hb.trans (hW.mono hb.size)) (fun k W1 W2 xs hk hj hb2 hg hA => ?_) ⟨h0, hW⟩).mono ?_
    · have hW2 : Below w'.heap.size w' W2 := hj.2.trans (hg.below hW.size hj.2.size)
      obtain ⟨fn, tmps, assign, body, hy, hR⟩ := hY k W1 W2 xs hk hj.1 hW2 hg hA
      exact ⟨fn, tmps, assign, body, hy, hR.mono fun e W' hp => ⟨hp.1.mono hb.size (Nat.le_refl _), hp.2.imp (fun q => ⟨q.1, q.2, hW2.trans hp.1.low⟩) (fun q => ⟨q.1, q.2, hW2.trans hp.1.low⟩)⟩⟩
    · rintro e W' ⟨hv, hbW, W1, hG, ⟨hj, hq⟩ | ⟨k, hk, hj, hq⟩⟩
      · exact ⟨hv, hq.trans (hG.below hW.size hq.size), W1, hG, .inl hj⟩
      · exact ⟨hv, hq.trans (hG.below hW.size hq.size), W1, hG, .inr ⟨k, hk, hj⟩⟩

end Go.Proofs.YtnlaaejdianfjabGreat
namespace Go.Proofs.YtnlaaejdianfjabGreat
open Go.RowKit Go.Shelf
set_option linter.unusedVariables false
set_option linter.unusedSimpArgs false
attribute [local go_sem] Oper.semAt_some

theorem rowV_gr {B : Nat} {w w' : World} (hg : Gr B w w') {Q : Nat → Prop} {v : Value} {l : List Vt} (h : RowIs eVal Q w v l) : RowIs eVal Q w' v l := by
  obtain ⟨ao, n, c, hv, hl, hn, hc, hx⟩ := h
  refine ⟨ao, n, c, hv, hl, hn, hc, fun hp => ?_⟩
  obtain ⟨b, o, ha, hq, hi⟩ := hx hp
  refine ⟨b, o, ha, hq, fun i h => ?_⟩
  obtain ⟨cs, h1, h2, h3⟩ := hi i h
  exact ⟨cs, h1, h2, fun j hj => (hg.cell (h3 j hj)).1⟩
/-- The k-th row is told: it lies ahead of n0, or in what is new since s. -/
def A1 (n0 : Nat) (Rs : List (List Vt)) (k s : Nat) (W : World) (xs : Array Value) : Prop := ∃ a n c r, xs = #[.slice a n c] ∧ Rs[k]? = some r ∧ RowIs eVal (fun b => b < n0 ∨ s ≤ b) W (.slice a n c) r
theorem A1.on {n0 : Nat} {Rs : List (List Vt)} {k s s' : Nat} {W W' : World} {xs : Array Value} (h : A1 n0 Rs k s W xs) (hs : s' ≤ s) (hg : Gr 0 W W') : A1 n0 Rs k s' W' xs ∧ xs.size = 1 := by
  obtain ⟨a, n, c, r, rfl, h1, h2⟩ := h
  exact ⟨⟨a, n, c, r, rfl, h1, (rowV_gr hg h2).mono (by decide) fun b hq _ => hq.imp id (fun x => Nat.le_trans hs x)⟩, rfl⟩
set_option maxRecDepth 100000 in
set_option maxHeartbeats 2000000 in
theorem values_any {Q : Nat → Prop} {w0 : World} {B : Nat} {a : Option Addr} {n c : Nat} {L : List (List Vt)} (hB : w0.cell? ⟨B, 0, none⟩ = some (.slice a n c)) (h : RowIs eRow Q w0 (.slice a n c) L) :
    SeqW Tryz.prog 46 #[.pointer (some ⟨B, 0, none⟩)] L.length (A1 w0.heap.size L) w0 := by
  intro l J Jx W hW hY h0
  obtain ⟨l1, l2, l3⟩ := row_lens h
  have HF : Hid (∀ w', Below w0.heap.size w0 w' → ∀ i (h : i < n), ∃ b o a' n' c', a = some ⟨b, o, none⟩ ∧ w'.cell? ⟨b, o + i, none⟩ = some (.slice a' n' c') ∧ ∀ s, A1 w0.heap.size L i s w' #[.slice a' n' c']) := hid fun w' hb i hi => by
    obtain ⟨b, o, ra, rn, rc, h1, h2, h3, h4⟩ := row1 h (k := i) (by omega)
    refine ⟨b, o, ra, rn, rc, h1, cell_later hb h3, fun s => ⟨ra, rn, rc, _, rfl, List.getElem?_eq_getElem (by omega), ?_⟩⟩
    exact ((h4.mono (by decide) (Q' := fun b => b < w0.heap.size) fun b _ hl => hl).keep (by decide) fun b _ hl => hb.block b hl).mono (by decide) fun b hq _ => .inl hq
  have hBW := cell_later hW hB
  have HY : Hid _ := hid hY
  have HN : Hid (L.length = n) := hid l1
  have HJ0 : Hid (J 0 W) := hid h0
  have HG0 : Hid (Gr W.heap.size W W) := hid (Gr.refl _ _)
  rw [l1] at hY ⊢
  clear hY h l1 h0
  refine (callsIn_wide (n := 0)).1 (callsIn_of_wp Tryz.func46 rfl trivial ?_)
  simp only [Tryz.ntmps46, List.size_toArray, List.length_cons, List.length_nil, Nat.reduceAdd, Nat.reduceSub, Array.replicate_succ, Array.replicate_zero, List.push_toArray, List.append_toArray, List.nil_append, List.cons_append]
  gi_wp2
  gi_loopw [7] (fun i wr => ∃ (k : Nat) (W1 : World), k ≤ n ∧ i = .int .i64 k ∧ Hid (J k W1) ∧ Hid (Gr W.heap.size W1 wr) ∧ Below w0.heap.size w0 wr) (fun i _ => n - (intOf i).toNat)
  case atStart => exact ⟨0, W, Nat.zero_le _, rfl, HJ0, HG0, hW⟩
  case round =>
    obtain ⟨k, W1, hk, rfl, HJ, HG, hB2⟩ := hrel
    clear HJ0 HG0
    by_cases hlt : k < n
    · obtain ⟨b, o, a', n', c', rfl, hc, hA⟩ := HF.out wr hB2 k hlt
      obtain ⟨fn, tmps, assign, body, hy, hR⟩ := HY.out k W1 wr _ (by rw [HN.out]; exact hlt) HJ.out hB2 HG.out (hA _)
      have hkm : (k : Int) < (n : Int) := by omega
      have hwk := wrapS hlt l2 l3
      have HR : Hid _ := hid hR
      clear hR hA
      gi_wp2
      refine ⟨rfl, HR.out.mono ?_⟩
      rintro e' W3 ⟨hk3, ⟨rfl, hJ3⟩ | ⟨rfl, hJx3⟩⟩
      · have hB3 := hB2.trans hk3.low
        have HJ3 : Hid _ := hid hJ3
        clear hJ3 hk3 HR
        gi_wp2
        go_roundw
        case rel => exact ⟨k + 1, W3, by omega, by go_num, HJ3, hid (Gr.refl _ _), hB3⟩
        case measure => simp only [intOf]; omega
      · have hB3 := hB2.trans hk3.low
        have HJ3 : Hid _ := hid hJx3
        clear hJx3 hk3 HR
        gi_wp2
        refine bodyPost_ret (results_none rfl _ _ _) rfl ?_
        exact ⟨⟨_, rfl⟩, hB3, W3, Gr.refl _ _, .inr ⟨k + 1, by omega, HJ3.out⟩⟩
    · obtain rfl : k = n := by omega
      gi_wp2
      go_end0
      exact ⟨⟨_, rfl⟩, hB2, W1, HG.out, .inl HJ.out⟩

end Go.Proofs.YtnlaaejdianfjabGreat
namespace Go.Proofs.YtnlaaejdianfjabGreat
open Go.RowKit Go.Shelf
set_option linter.unusedVariables false
set_option linter.unusedSimpArgs false
attribute [local go_sem] Oper.semAt_some

/-- The rows for which it holds, up to the first error. -/
def fndP (hol : List Vt → Bool × Int) : List (List Vt) → List (List Vt) × Int
  | [] => ([], 0)
  | r :: l => if (hol r).2 ≠ 0 then ([], (hol r).2) else if (hol r).1 then (r :: (fndP hol l).1, (fndP hol l).2) else fndP hol l
def fndN (F : List (List Vt) × Int) : Nat := F.1.length + if F.2 ≠ 0 then 1 else 0
/-- What is told: the rows, then the error. -/
def A2 (n0 : Nat) (F : List (List Vt) × Int) (k s : Nat) (W : World) (xs : Array Value) : Prop :=
  (∃ a n c r, xs = #[.slice a n c, .int .i64 0] ∧ F.1[k]? = some r ∧ RowIs eVal (fun b => b < n0 ∨ s ≤ b) W (.slice a n c) r) ∨ (k = F.1.length ∧ F.2 ≠ 0 ∧ xs = #[.slice none 0 0, .int .i64 F.2])
theorem A2.on {n0 : Nat} {F : List (List Vt) × Int} {k s s' : Nat} {W W' : World} {xs : Array Value} (h : A2 n0 F k s W xs) (hs : s' ≤ s) (hg : Gr 0 W W') : A2 n0 F k s' W' xs ∧ xs.size = 2 := by
  rcases h with ⟨a, n, c, r, rfl, h1, h2⟩ | ⟨h1, h2, rfl⟩
  · exact ⟨.inl ⟨a, n, c, r, rfl, h1, (rowV_gr hg h2).mono (by decide) fun b hq _ => hq.imp id (fun x => Nat.le_trans hs x)⟩, rfl⟩
  · exact ⟨.inr ⟨h1, h2, rfl⟩, rfl⟩
/-- The condition, asked of any of these rows. -/
def HolC (w0 : World) (vin vwh : Value) (Rs : List (List Vt)) (hol : List Vt → Bool × Int) : Prop :=
  ∀ (W : World) (r : List Vt) (a : Option Addr) (n c : Nat), Below w0.heap.size w0 W → r ∈ Rs → RowIs eVal (fun _ => True) W (.slice a n c) r → Calls Tryz.prog 29 #[vin, .slice a n c, vwh] W fun e w' => e = .returned (.tuple #[.bool (hol r).1, .int .i64 (hol r).2]) ∧ Below W.heap.size W w'
set_option maxRecDepth 100000 in
set_option maxHeartbeats 4000000 in
theorem such1_any {w0 : World} {b1 b2 b3 gf : Nat} {lb : Array Value} {ia : Option Addr} {iN ic : Nat} {wa : Option Addr} {wn wc : Nat} {Rs : List (List Vt)} {hol : List Vt → Bool × Int}
    (c1 : w0.cell? ⟨b1, 0, none⟩ = some (.func (.func gf) #[] lb)) (c2 : w0.cell? ⟨b2, 0, none⟩ = some (.slice ia iN ic)) (c3 : w0.cell? ⟨b3, 0, none⟩ = some (.slice wa wn wc))
    (eg : ∀ args w, (callFunc gf args).run Tryz.prog w = .ok (.enter gf args) w) (hs : SeqW Tryz.prog gf lb Rs.length (A1 w0.heap.size Rs) w0) (hh : HolC w0 (.slice ia iN ic) (.slice wa wn wc) Rs hol) :
    SeqW Tryz.prog 28 #[.pointer (some ⟨b1, 0, none⟩), .pointer (some ⟨b2, 0, none⟩), .pointer (some ⟨b3, 0, none⟩)] (fndN (fndP hol Rs)) (A2 w0.heap.size (fndP hol Rs)) w0 := by
  intro l J Jx W hW hY h0
  have hw := bal hW (.cells #[.func (.yield l) #[] #[]] 83)
  have bY := Bk.new W (.cells #[.func (.yield l) #[] #[]] 83)
  have hWX : Below W.heap.size W (W.alloc (.cells #[.func (.yield l) #[] #[]] 83)) := bal (Below.refl _ _) _
  have d1 := cell_later hw c1
  have HY : Hid _ := hid hY
  have HH : Hid _ := hid hh
  have HC2 : Hid (∀ w', Below w0.heap.size w0 w' → w'.cell? ⟨b2, 0, none⟩ = some (.slice ia iN ic) ∧ w'.cell? ⟨b3, 0, none⟩ = some (.slice wa wn wc)) := hid fun w' hb => ⟨cell_later hb c2, cell_later hb c3⟩
  obtain ⟨F, hF⟩ : ∃ F, fndP hol Rs = F := ⟨_, rfl⟩
  rw [hF] at HY ⊢
  have HF : Hid _ := hid hF
  have hw0 : w0.heap.size ≤ W.heap.size := hW.size
  clear hY hh c1 c2 c3 hF
  refine (callsIn_wide (n := 0)).1 (callsIn_of_wp_marks Tryz.func28 rfl trivial ?_ rfl)
  simp only [Tryz.ntmps28, List.size_toArray, List.length_cons, List.length_nil, Nat.reduceAdd, Nat.reduceSub, Array.replicate_succ, Array.replicate_zero, List.push_toArray, List.append_toArray, List.nil_append, List.cons_append]
  gi_wp2
  generalize hWX2 : W.alloc (.cells #[.func (.yield l) #[] #[]] 83) = WX at *
  obtain ⟨by_, hby⟩ : ∃ b, W.heap.size = b := ⟨_, rfl⟩
  have hbX : by_ ≤ WX.heap.size := by rw [← hby]; exact hWX.size
  rw [hby] at bY
  have H0 : Hid (J 0 W) := hid h0
  have hbs : W.heap.size ≤ WX.heap.size := hWX.size
  have HGX : Hid (Gr W.heap.size W WX) := hid (Gr.of_below hWX)
  clear hWX h0 hWX2
  refine range_any (gf := gf) (lb := lb) (N := Rs.length) (A := A1 w0.heap.size Rs) (w0 := w0) rfl eg hs hw (fun h h1 h2 => A1.on h h1 h2)
    (fun k V => ∃ (P : List (List Vt)) (V1 : World), F.1 = P ++ (fndP hol (Rs.drop k)).1 ∧ F.2 = (fndP hol (Rs.drop k)).2 ∧ J P.length V1 ∧ Gr W.heap.size V1 V ∧ Below w0.heap.size w0 V ∧ Bk V by_ (.cells #[.func (.yield l) #[] #[]] 83))
    (fun c k V => c = .ret ∧ Below w0.heap.size w0 V ∧ ∃ V1, Gr W.heap.size V1 V ∧ (J (fndN F) V1 ∨ ∃ j, j ≤ fndN F ∧ Jx j V1))
    ⟨[], W, by rw [List.drop_zero, HF.out]; rfl, by rw [List.drop_zero, HF.out], H0.out, HGX.out, hw, bY⟩
    (fun xs => { tmps := #[.func (.yield l) #[] #[], .pointer (some ⟨b1, 0, none⟩), .pointer (some ⟨b2, 0, none⟩), .pointer (some ⟨b3, 0, none⟩), .pointer (some ⟨by_, 0, none⟩), xs[0]!, undef, undef, .func (.func gf) #[] lb, xs[0]!, undef, undef, undef, undef, undef, undef, undef, undef, undef, undef, undef, undef, undef, undef, undef, undef, undef, undef, undef], defers := [] }) ?has ?bo ?done ?stop
  case has =>
    rintro l2 xs W2 K ⟨k, s, V, a, n, c, r, rfl, -, -⟩ hK
    gi_wp2
    exact hK
  case bo =>
    rintro l2 k V Wr xs hk ⟨P, V1, hF1, hF2, hJ, hG1, hbV, hbk⟩ hG hbW ⟨a, n, c, r, rfl, hr, hrow⟩
    have cy : Wr.cell? ⟨by_, 0, none⟩ = some (.func (.yield l) #[] #[]) := (hG.cell (hbk.cell 0)).1
    obtain ⟨c2, c3⟩ := HC2.out Wr hbW
    have hkr := (List.getElem?_eq_some_iff.1 hr)
    obtain ⟨hkl, hkr⟩ := hkr
    have hdr : Rs.drop k = r :: Rs.drop (k + 1) := by rw [List.drop_eq_getElem_cons hkl, hkr]
    have HHr := HH.out Wr r a n c hbW (hkr ▸ List.getElem_mem hkl) (hrow.mono (by decide) fun _ _ _ => trivial)
    obtain ⟨⟨qb, qe⟩, hq⟩ : ∃ q, hol r = q := ⟨_, rfl⟩
    rw [hq] at HHr
    replace HHr : Hid _ := hid HHr
    have HYP : Hid (∀ W2 xs, P.length < fndN F → Below w0.heap.size w0 W2 → Gr WX.heap.size V W2 → A2 w0.heap.size F P.length V1.heap.size W2 xs → _) := hid fun W2 xs h1 h2 h3 h4 => HY.out P.length V1 W2 xs h1 hJ h2 (hG1.trans (h3.mono hbs)) h4
    have HP : Hid (F.1 = P ++ (fndP hol (r :: Rs.drop (k + 1))).1 ∧ F.2 = (fndP hol (r :: Rs.drop (k + 1))).2 ∧ hol r = (qb, qe)) := hid ⟨hdr ▸ hF1, hdr ▸ hF2, hq⟩
    have HJ1 : Hid (J P.length V1 ∧ Gr W.heap.size V1 V) := hid ⟨hJ, hG1⟩
    have HRw : Hid _ := hid hrow
    have HGV : Hid _ := hid hG
    have HBk : Hid _ := hid hbk
    have hV1 : V1.heap.size ≤ V.heap.size := hG1.size
    clear hF1 hF2 hJ hG1 hbk hG hrow hdr hq hr hkr
    simp only [List.getElem!_toArray, List.getElem!_cons_zero]
    gi_wp2_with fail
    refine ⟨trivial, rfl, (CallsIn.inRound l2 (callsIn_wide.2 HHr.out)).mono ?_⟩
    rintro e W3 ⟨rfl, hb3⟩
    have cy3 := cell_later hb3 cy
    have hbW3 := hbW.trans (hb3.mono hbW.size)
    have HK3 : Hid (Kps w0.heap.size WX.heap.size Wr W3) := hid (Kps.of_below hb3 hbW.size)
    have HG3 : Hid (Gr WX.heap.size V W3) := hid (HGV.out.trans (Gr.of_below hb3))
    have HR3 : Hid (RowIs eVal (fun b => b < w0.heap.size ∨ V1.heap.size ≤ b) W3 (.slice a n c) r) := hid ((rowV_gr (B := 0) (Gr.of_below hb3) HRw.out).mono (by decide) fun b hq _ => hq.imp id fun x => Nat.le_trans hV1 x)
    clear HHr hb3 cy HRw
    by_cases h0 : qe = 0
    · subst h0
      cases qb with
      | false =>
        have HE : Hid (F.1 = P ++ (fndP hol (Rs.drop (k + 1))).1 ∧ F.2 = (fndP hol (Rs.drop (k + 1))).2) := hid (by
          have h := HP.out
          rw [fndP, h.2.2, if_neg (by simp), if_neg (by simp)] at h
          exact ⟨h.1, h.2.1⟩)
        gi_wp2
        refine ⟨fun _ h => (by cases h), ?_⟩
        gi_wp2
        exact ⟨HK3.out, P, V1, HE.out.1, HE.out.2, HJ1.out.1, HJ1.out.2.trans (HG3.out.mono hbs), hbW3, ⟨HG3.out.block _ _ HBk.out.row (.inr rfl)⟩⟩
      | true =>
        have HE : Hid (F.1 = (P ++ [r]) ++ (fndP hol (Rs.drop (k + 1))).1 ∧ F.2 = (fndP hol (Rs.drop (k + 1))).2) := hid (by
          have h := HP.out
          rw [fndP, h.2.2, if_neg (by simp), if_pos rfl] at h
          exact ⟨by rw [h.1, List.append_assoc]; rfl, h.2.1⟩)
        have hlt : P.length < fndN F := by
          unfold fndN
          rw [HE.out.1, List.length_append, List.length_append]; simp; omega
        have HPn : Hid (P.length + 1 ≤ fndN F) := hid hlt
        obtain ⟨fn, tmps, assign, body, hy, hR⟩ := HYP.out W3 #[.slice a n c, .int .i64 0] hlt hbW3 HG3.out (.inl ⟨a, n, c, r, rfl, by rw [HE.out.1, List.append_assoc, List.getElem?_append_right (Nat.le_refl _), Nat.sub_self]; rfl, HR3.out⟩)
        have HR : Hid _ := hid hR
        clear hR hlt
        gi_wp2
        refine ⟨rfl, HR.out.mono ?_⟩
        rintro e' W4 ⟨hk4, ⟨rfl, hJ4⟩ | ⟨rfl, hJ4⟩⟩
        · have HK4 : Hid _ := hid hk4
          have HJ4 : Hid _ := hid hJ4
          clear hk4 hJ4 HR
          gi_wp2
          exact ⟨HK3.out.trans (HK4.out.mono (Nat.le_refl _) hbs), P ++ [r], W4, HE.out.1, HE.out.2, by rw [List.length_append]; exact HJ4.out, Gr.refl _ _, hbW3.trans HK4.out.low, ⟨HK4.out.oth _ _ (Nat.le_of_eq hby) (HG3.out.block _ _ HBk.out.row (.inr rfl)) rfl⟩⟩
        · have HK4 : Hid _ := hid hk4
          have HJ4 : Hid _ := hid hJ4
          clear hk4 hJ4 HR
          gi_wp2
          exact ⟨HK3.out.trans (HK4.out.mono (Nat.le_refl _) hbs), rfl, hbW3.trans HK4.out.low, W4, Gr.refl _ _, .inr ⟨_, HPn.out, HJ4.out⟩⟩
    · have HE : Hid (F.1 = P ∧ F.2 = qe) := hid (by
        have h := HP.out
        rw [fndP, h.2.2, if_pos h0] at h
        exact ⟨by rw [h.1]; simp, h.2.1⟩)
      have HN : Hid (fndN F = P.length + 1) := hid (by unfold fndN; rw [HE.out.1, HE.out.2, if_pos h0])
      obtain ⟨fn, tmps, assign, body, hy, hR⟩ := HYP.out W3 #[.slice none 0 0, .int .i64 qe] (by rw [HN.out]; omega) hbW3 HG3.out (.inr ⟨by rw [HE.out.1], by rw [HE.out.2]; exact h0, by rw [HE.out.2]⟩)
      have HR : Hid _ := hid hR
      have h0' : (qe != 0) = true := by simpa using h0
      have h0d : decide (qe = 0) = false := by simpa using h0
      clear hR
      gi_wp2
      refine ⟨rfl, HR.out.mono ?_⟩
      rintro e' W4 ⟨hk4, ⟨rfl, hJ4⟩ | ⟨rfl, hJ4⟩⟩
      · have HK4 : Hid _ := hid hk4
        have HJ4 : Hid _ := hid hJ4
        clear hk4 hJ4 HR
        gi_wp2
        exact ⟨HK3.out.trans (HK4.out.mono (Nat.le_refl _) hbs), rfl, hbW3.trans HK4.out.low, W4, Gr.refl _ _, .inl (by rw [HN.out]; exact HJ4.out)⟩
      · have HK4 : Hid _ := hid hk4
        have HJ4 : Hid _ := hid hJ4
        clear hk4 hJ4 HR
        gi_wp2
        exact ⟨HK3.out.trans (HK4.out.mono (Nat.le_refl _) hbs), rfl, hbW3.trans HK4.out.low, W4, Gr.refl _ _, .inr ⟨_, by rw [HN.out]; exact Nat.le_refl _, HJ4.out⟩⟩
  case done =>
    rintro D V Wd hD ⟨P, V1, hF1, hF2, hJ, hG1, hbV, hbk⟩ hG hbW hdf
    have HEnd : Hid (∃ W1, Gr W.heap.size W1 (Wd.putObj D (.deferred none)) ∧ (J (fndN F) W1 ∨ ∃ j, j ≤ fndN F ∧ Jx j W1)) := hid (by
      rw [List.drop_length] at hF1 hF2
      refine ⟨V1, (hG1.trans (hG.mono hbs)).put _ (Nat.le_trans hbs hD) hdf rfl, .inl ?_⟩
      unfold fndN
      rw [hF1, hF2]
      simpa [fndP] using hJ)
    have HB : Hid (Below w0.heap.size w0 (Wd.putObj D (.deferred none))) := hid (hbW.trans (kps_put Wd _ (Nat.le_trans hw.size hD) hdf))
    clear hF1 hF2 hJ hG1 hbk hG
    gi_wp2
    refine ⟨by simp, .inl ⟨_, _, rfl, run_takeDeferred hdf, ?_⟩⟩
    exact ⟨_, results_none rfl _ _ _, ⟨_, rfl⟩, HB.out, HEnd.out⟩
  case stop =>
    rintro D c k V Wd hD hk ⟨rfl, hbV, V1, hG1, hor⟩ hG hbW hdf
    have HEnd : Hid (∃ W1, Gr W.heap.size W1 (Wd.putObj D (.deferred none)) ∧ (J (fndN F) W1 ∨ ∃ j, j ≤ fndN F ∧ Jx j W1)) := hid ⟨V1, (hG1.trans (hG.mono hbs)).put _ (Nat.le_trans hbs hD) hdf rfl, hor⟩
    have HB : Hid (Below w0.heap.size w0 (Wd.putObj D (.deferred none))) := hid (hbW.trans (kps_put Wd _ (Nat.le_trans hw.size hD) hdf))
    clear hG1 hor hG
    gi_wp2
    refine ⟨by simp, .inl ⟨_, _, rfl, run_takeDeferred hdf, ?_⟩⟩
    exact ⟨_, results_none rfl _ _ _, ⟨_, rfl⟩, HB.out, HEnd.out⟩

end Go.Proofs.YtnlaaejdianfjabGreat
