import Derived.Test.YtmfoenhbldacfaaQaw
import Derived.Shelf.Abstract
import Derived.OwnWalkIn
import Derived.TacticsInMore
import Derived.LoopNIn
import Derived.LoopIn
/- The keys of a map, one by one, in whatever order: maps.Keys. -/
namespace Go.Proofs.Ytmfoenhbldacfaa
open Go.RowKit Go.Shelf
open Go.ChangeMaps (setBlock)
set_option linter.unusedVariables false
set_option linter.unusedSimpArgs false
attribute [local go_sem] Oper.semAt_some

theorem hid {p : Prop} (h : p) : Hid p := h
/-- Block r is an iterator over the map in block b; these keys it has told. -/
def It (w : World) (b r : Nat) (es : Array MapEntry) (clock : Nat) (told : List Int) : Prop :=
  ∃ seen c0, w.heap[r]? = some (.mapIter (some b) clock seen c0) ∧ clock ≤ c0 ∧ w.heap[b]? = some (.map es clock) ∧ ∀ e ∈ es.toList, seen.contains e.born = true ↔ ∃ x ∈ told, e.key = .int .u64 x
def lft (w : World) (r : Nat) (es : Array MapEntry) : Nat := match w.heap[r]? with | some (.mapIter _ _ seen _) => (leftOf es seen).size | _ => 0
theorem It.keep {w w' : World} {b r : Nat} {es : Array MapEntry} {clock : Nat} {told : List Int} (h : It w b r es clock told) (h1 : w'.heap[r]? = w.heap[r]?) (h2 : w'.heap[b]? = w.heap[b]?) : It w' b r es clock told := by
  obtain ⟨seen, c0, k1, k2, k3, k4⟩ := h
  exact ⟨seen, c0, by rw [h1]; exact k1, k2, by rw [h2]; exact k3, k4⟩
/-- What is asked of the map's entries. -/
structure Es (es : Array MapEntry) (clock : Nat) (Ks : List Int) : Prop where
  keys : es.toList.map (·.key) = Ks.map (Value.int .u64)
  nd : Ks.Nodup
  born : (es.toList.map (·.born)).Pairwise (· < ·)
  old : ∀ e ∈ es.toList, e.born < clock
theorem Es.key {es : Array MapEntry} {clock : Nat} {Ks : List Int} (h : Es es clock Ks) {e : MapEntry} (he : e ∈ es.toList) : ∃ x ∈ Ks, e.key = .int .u64 x := by
  have : e.key ∈ es.toList.map (·.key) := List.mem_map.2 ⟨e, he, rfl⟩
  rw [h.keys] at this
  obtain ⟨x, hx, e1⟩ := List.mem_map.1 this
  exact ⟨x, hx, e1.symm⟩
theorem Es.born_nd {es : Array MapEntry} {clock : Nat} {Ks : List Int} (h : Es es clock Ks) : (es.toList.map (·.born)).Nodup := by
  rw [List.nodup_iff_pairwise_ne]
  exact h.born.imp fun hlt e => by omega
theorem Es.key_nd {es : Array MapEntry} {clock : Nat} {Ks : List Int} (h : Es es clock Ks) : (es.toList.map (·.key)).Nodup := by
  rw [h.keys, List.nodup_iff_pairwise_ne, List.pairwise_map]
  have := h.nd
  rw [List.nodup_iff_pairwise_ne] at this
  exact this.imp fun hne e => hne (by injection e)
theorem It.next {w : World} {b r : Nat} {es : Array MapEntry} {clock : Nat} {told : List Int} {Ks : List Int} (h : It w b r es clock told) (hE : Es es clock Ks) (ty : TypeId) :
    ((Instr.next (.pointer (some ⟨r, 0, none⟩)) false ty).run Try.prog w = .ok (.tuple #[.bool false]) w ∧ ∀ x ∈ Ks, x ∈ told) ∨
    ∃ x v w', x ∈ Ks ∧ x ∉ told ∧ (Instr.next (.pointer (some ⟨r, 0, none⟩)) false ty).run Try.prog w = .ok (.tuple #[.bool true, .int .u64 x, v]) w' ∧ It w' b r es clock (told ++ [x]) ∧ Rest r w w' ∧ lft w' r es < lft w r es ∧
      (Instr.entry (.pointer (some ⟨r, 0, none⟩))).run Try.prog w' = .ok (.tuple #[.int .u64 x, v]) w' := by
  obtain ⟨seen, c0, k1, k2, k3, k4⟩ := h
  have hlr := (Array.getElem?_eq_some_iff.1 k1).1
  have hrb : b ≠ r := by rintro rfl; rw [k1] at k3; cases k3
  rcases run_next_at (P := Try.prog) w ty r b clock c0 seen es clock k1 k3 hE.old k2 with ⟨h0, hrun⟩ | ⟨e, he, w1, hal, hrun⟩
  · refine .inl ⟨hrun, fun x hx => ?_⟩
    have hx2 : Value.int .u64 x ∈ es.toList.map (·.key) := by rw [hE.keys]; exact List.mem_map.2 ⟨x, hx, rfl⟩
    obtain ⟨e, he, e1⟩ := List.mem_map.1 hx2
    obtain ⟨y, hy, e2⟩ := (k4 e he).1 (all_seen es seen h0 e he)
    rw [e1] at e2
    injection e2 with _ e3
    rw [e3]; exact hy
  · obtain ⟨hem, hes⟩ := mem_left he
    obtain ⟨x, hx, hk⟩ := hE.key hem
    have hw1 : w1.heap = w.heap := by rcases hal with rfl | rfl <;> rfl
    have hset : (setBlock w1 r (.mapIter (some b) clock (seen.push e.born) clock)).heap[r]? = some (.mapIter (some b) clock (seen.push e.born) clock) := setBlock_at (by rw [hw1]; exact hlr) _
    have hoth : ∀ k, k ≠ r → (setBlock w1 r (.mapIter (some b) clock (seen.push e.born) clock)).heap[k]? = w.heap[k]? := fun k hk => by
      simp [setBlock, Array.getElem?_setIfInBounds, Ne.symm hk, hw1]
    have hb' := (hoth b hrb).trans k3
    rw [hk] at hrun
    have hent := run_entry_at (P := Try.prog) _ r b clock seen es clock e hset hb' hem hE.born_nd
    rw [hk] at hent
    refine .inr ⟨x, e.val, _, hx, fun ht => ?_, hrun, ⟨_, _, hset, Nat.le_refl _, hb', fun y hy => ?_⟩, ?_, ?_, hent⟩
    · have := (k4 e hem).2 ⟨x, ht, hk⟩
      rw [hes] at this
      cases this
    · rw [contains_push]
      constructor
      · intro h
        rcases Bool.or_eq_true_iff.1 h with h | h
        · obtain ⟨z, hz, e1⟩ := (k4 y hy).1 h
          exact ⟨z, List.mem_append_left _ hz, e1⟩
        · have e2 : y = e := nodup_inj hE.born_nd hy hem (by simpa using h)
          exact ⟨x, by simp, by rw [e2]; exact hk⟩
      · rintro ⟨z, hz, e1⟩
        rcases List.mem_append.1 hz with hz | hz
        · rw [(k4 y hy).2 ⟨z, hz, e1⟩]; rfl
        · rw [List.mem_singleton] at hz
          subst hz
          have e2 : y = e := nodup_inj hE.key_nd hy hem (by rw [e1, hk])
          simp [e2]
    · rcases hal with rfl | rfl <;> exact ⟨rfl, rfl, rfl, by simp [setBlock], fun k _ hk => hoth k hk⟩
    · unfold lft
      rw [hset, k1]
      exact left_shrinks es seen e he
theorem It.start {w : World} {b : Nat} {es : Array MapEntry} {clock : Nat} (hb : w.heap[b]? = some (.map es clock)) : (Instr.range 42 (.map (some b))).run Try.prog w = .ok (.pointer (some ⟨w.heap.size, 0, none⟩)) (w.alloc (.mapIter (some b) clock #[] clock)) ∧ It (w.alloc (.mapIter (some b) clock #[] clock)) b w.heap.size es clock [] := by
  have hlb := (Array.getElem?_eq_some_iff.1 hb).1
  refine ⟨?_, ⟨_, _, heap_alloc_last w _, Nat.le_refl _, by rw [Below.heap_alloc _ _ _ hlb]; exact hb, fun e _ => by simp⟩⟩
  have hu := run_underlying (P := Try.prog) Try.underlying42 w
  simp only [Instr.range, Sem.run_bind, hu, Result.andThen_ok, getObj_at hb, Sem.run_pure]
  simp [newObj, Sem.run]
/-- A key is told that was not. -/
def AK (Ks : List Int) (s s' : List Int) (_ : Nat) (_ : World) (xs : Array Value) : Prop := ∃ x, xs = #[.int .u64 x] ∧ x ∈ Ks ∧ x ∉ s ∧ s' = s ++ [x]
theorem Gr.it {B : Nat} {w w' : World} {r : Nat} {b : Nat} {es : Array MapEntry} {clock : Nat} {told : List Int} (h : It w b r es clock told) (hr : Rest r w w') (hB : B ≤ r) : Gr B w w' :=
  ⟨hr.os, hr.tape, hr.output, hr.size, fun k o e ho => by
    rw [hr.block k (Array.getElem?_eq_some_iff.1 e).1 (by
      rintro rfl
      obtain ⟨seen, c0, k1, _⟩ := h
      rw [k1] at e
      cases e
      rcases ho with ho | ho
      · omega
      · cases ho)]
    exact e⟩

set_option maxRecDepth 100000 in
set_option maxHeartbeats 2000000 in
theorem keys_any {w0 : World} {q b : Nat} {es : Array MapEntry} {clock : Nat} {Ks : List Int} (hE : Es es clock Ks) (hq : w0.cell? ⟨q, 0, none⟩ = some (.map (some b))) (hb : w0.heap[b]? = some (.map es clock)) :
    SeqS Try.prog 43 #[.pointer (some ⟨q, 0, none⟩)] (AK Ks) [] (fun s => ∀ x ∈ Ks, x ∈ s) w0 := by
  intro l J Jx W hW hY h0
  have hbl := (Array.getElem?_eq_some_iff.1 hb).1
  have hql : q < w0.heap.size := World.block_lt_of_cell? _ _ hq
  have hWq : W.cell? ⟨q, 0, none⟩ = some (.map (some b)) := (hW.cell hql).trans hq
  have hWb : W.heap[b]? = some (.map es clock) := (hW.block b hbl).trans hb
  obtain ⟨hrg, hIt⟩ := It.start hWb
  have HY : Hid _ := hid hY
  have hbA : Below W.heap.size W (W.alloc (.mapIter (some b) clock #[] clock)) := (Below.refl _ _).alloc (Nat.le_refl _) _
  have HG0 : Hid (Gr W.heap.size W (W.alloc (.mapIter (some b) clock #[] clock))) := hid (Gr.of_below hbA)
  have HB0 : Below w0.heap.size w0 (W.alloc (.mapIter (some b) clock #[] clock)) := hW.trans (hbA.mono hW.size)
  have HJ0 : Hid (J [] W) := hid h0
  have HE : Hid _ := hid hE
  have hIt0 : Hid _ := hid hIt
  clear hY hE hq hb h0 hIt hbA
  refine (callsIn_wide (n := 0)).1 (callsIn_of_wp Try.func43 rfl trivial ?_)
  simp only [Try.ntmps43, List.size_toArray, List.length_cons, List.length_nil, Nat.reduceAdd, Nat.reduceSub, Array.replicate_succ, Array.replicate_zero, List.push_toArray, List.append_toArray, List.nil_append, List.cons_append]
  gi_wp2
  clear hrg hWb hWq
  generalize hrr : W.heap.size = r at *
  generalize (W.alloc (.mapIter (some b) clock #[] clock)) = V at *
  gi_loopw [3] (fun _ wr => ∃ (told : List Int) (W1 : World), Hid (J told W1) ∧ Hid (Gr r W1 wr) ∧ Below w0.heap.size w0 wr ∧ Hid (It wr b r es clock told)) (fun _ wr => lft wr r es)
  case atStart => exact ⟨[], W, HJ0, HG0, HB0, hIt0⟩
  case round =>
    obtain ⟨told, W1, HJ, HG, hB, HI⟩ := hrel
    clear HJ0 HG0 HB0 hIt0
    have hrl : w0.heap.size ≤ r := by rw [← hrr]; exact hW.size
    rcases HI.out.next HE.out 0 with ⟨hn, hfin⟩ | ⟨x, v, w2, hx, hnt, hn, hI2, hr2, hls, hen⟩
    · replace hfin : Hid _ := hid hfin
      clear HY
      gi_wp2
      refine bodyPost_end (results_none rfl _ _ _) rfl ?_
      exact ⟨⟨_, rfl⟩, hB, W1, by rw [hrr]; exact HG.out, .inl ⟨told, hfin.out, HJ.out⟩⟩
    · have hG2 : Gr r W1 w2 := HG.out.trans (Gr.it HI.out hr2 (Nat.le_refl _))
      have hB2 : Below w0.heap.size w0 w2 := Rest.below hB hr2 hrl hB.size
      obtain ⟨fn, tmps, assign, body, hy, hR⟩ := HY.out told (told ++ [x]) W1 w2 #[.int .u64 x] HJ.out hB2 hG2 ⟨x, rfl, hx, hnt, rfl⟩
      have HR : Hid _ := hid hR
      have HI2 : Hid _ := hid hI2
      have HLs : Hid _ := hid hls
      clear hR hI2 hx hnt HI HJ HG hr2 hG2 hls
      gi_wp2
      refine ⟨rfl, HR.out.mono ?_⟩
      rintro e' W3 ⟨hk3, ⟨rfl, hJ3⟩ | ⟨rfl, hJx3⟩⟩
      · have hB3 := hB2.trans hk3.low
        have HJ3 : Hid _ := hid hJ3
        obtain ⟨seen, c0, k1, k2, k3, k4⟩ := HI2.out
        have e1 := hk3.oth r _ (by omega) k1 rfl
        have e2 : W3.heap[b]? = w2.heap[b]? := hk3.low.block b hbl
        have HI3 : Hid (It W3 b r es clock (told ++ [x])) := hid (HI2.out.keep (by rw [e1, k1]) e2)
        have hl3 : lft W3 r es = lft w2 r es := by unfold lft; rw [e1, k1]
        have HL3 : Hid (lft W3 r es < lft wr r es) := hid (by rw [hl3]; exact HLs.out)
        clear hJ3 hk3 HR HI2 HLs k1 k2 k3 k4 e1 e2 hl3
        gi_wp2
        go_roundw
        case rel => exact ⟨told ++ [x], W3, HJ3, hid (Gr.refl _ _), hB3, HI3⟩
        case measure => exact HL3.out
      · have hB3 := hB2.trans hk3.low
        have HJ3 : Hid _ := hid hJx3
        clear hJx3 hk3 HR HI2 HLs
        gi_wp2
        refine bodyPost_ret (results_none rfl _ _ _) rfl ?_
        exact ⟨⟨_, rfl⟩, hB3, W3, Gr.refl _ _, .inr ⟨_, HJ3.out⟩⟩

end Go.Proofs.Ytmfoenhbldacfaa
