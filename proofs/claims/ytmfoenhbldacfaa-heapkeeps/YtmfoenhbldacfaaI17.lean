/- A heap's own face. -/
import Derived.Test.YtmfoenhbldacfaaI16
namespace Go.Proofs.Ytmfoenhbldacfaa
open Go.RowKit
set_option linter.unusedVariables false
set_option linter.unusedSimpArgs false

/-- A heap behind that pointer holds these records; so many; it has numbered at most k pages. -/
structure HA (B : Nat) (w : World) (hb : Nat) (M : Int → Option (List Int)) (N k : Nat) : Prop where
  ex : ∃ H, H.hb = hb ∧ HI B w H ∧ HP H none ∧ HW H none ∧ (∀ j, rcd H j = M j) ∧ H.P.length = N ∧ H.nx ≤ k
theorem HA.later {B : Nat} {w w' : World} {hb : Nat} {M : Int → Option (List Int)} {N k : Nat} (h : HA B w hb M N k) (hw : Below w.heap.size w w') : HA B w' hb M N k := by
  obtain ⟨H, h1, h2, r⟩ := h.ex
  exact ⟨H, h1, h2.later hw, r⟩
theorem HI.lookP {B : Nat} {w : World} {H : Hs} (h : HI B w H) (id : Int) : (Instr.lookup 42 (.map H.pm) (.int .u64 id) true).run Try.prog w = .ok (.tuple #[((lk H.P id).map plV).getD (.agg #[.int .i64 0, .int .i64 0]), .bool (lk H.P id).isSome]) w := by
  rcases h.pl with ⟨e, e2⟩ | ⟨b, e, _, hM⟩
  · rw [e, e2]
    exact look_nil Try.underlying42 Try.underlying28 pl_zero id true w
  · rw [e]
    exact hM.look Try.underlying42 Try.underlying28 pl_zero id true

theorem hnew_ha (w : World) (B : Nat) (hB : B ≤ w.heap.size) : HA B (w.alloc (.cells #[.map none, .map none, .slice none 0 0, .int .i64 0] 46)) w.heap.size (fun _ => none) 0 0 := by
  refine ⟨⟨w.heap.size, none, none, .slice none 0 0, 0, [], [], []⟩, rfl, ?_, ?_, ?_, fun j => rfl, rfl, Nat.le_refl _⟩
  · exact ⟨heap_alloc_last w _, hB, .inl ⟨rfl, rfl⟩, .inl ⟨rfl, rfl⟩, (fun b e => by cases e), OwnG.nil _ _, (fun n g R e => by cases e), List.nodup_nil, List.nodup_nil, List.nodup_nil, by simp; omega⟩
  · exact ⟨(fun n g R e => by cases e), (fun n g R e => by cases e), (fun n g R e => by cases e), List.Pairwise.nil, (fun r n e => by cases e), (fun n g R e => by cases e)⟩
  · exact ⟨(fun id n s e => by cases e), (fun id id' n s e => by cases e), (fun n g R s e => by cases e)⟩
set_option maxRecDepth 100000 in
theorem hnew_any (w : World) (B : Nat) (hB : B ≤ w.heap.size) : Calls Try.prog 7 #[] w fun e w' => ∃ hb, e = .returned (.pointer (some ⟨hb, 0, none⟩)) ∧ HA B w' hb (fun _ => none) 0 0 ∧ Below w.heap.size w w' := by
  go_enter Try.func7, Try.ntmps7
  go_wp2
  have hb0 : Below w.heap.size w (w.alloc (.cells #[.map none, .map none, .slice none 0 0, .int .i64 0] 46)) := (Below.refl _ _).alloc (Nat.le_refl _) _
  go_ret
  exact ⟨_, rfl, hnew_ha w B hB, hb0⟩

set_option maxRecDepth 100000 in
set_option maxHeartbeats 1000000 in
theorem find_heap {B : Nat} {w : World} {H : Hs} (h : HI B w H) (id : Int) : Calls Try.prog 23 #[.pointer (some ⟨H.hb, 0, none⟩), .int .u64 id] w fun e w' => e = .returned (.tuple #[((lk H.P id).map plV).getD (.agg #[.int .i64 0, .int .i64 0]), .int .i64 (if (lk H.P id).isSome then 0 else 22)]) ∧ Below w.heap.size w w' := by
  have hb0 : Below w.heap.size w (w.alloc (.cells #[.int .i64 0, .int .i64 0] 57)) := (Below.refl _ _).alloc (Nat.le_refl _) _
  have h1 := h.later hb0
  have hl := h1.lookP id
  obtain ⟨c0, -, -, -⟩ := h.cells
  have hlt := h.lt
  have c0' : (w.alloc (.cells #[.int .i64 0, .int .i64 0] 57)).cell? ⟨H.hb, 0, none⟩ = some (.map H.pm) := bcl hb0 c0
  generalize H.pm = pm at *
  cases hk : lk H.P id with
  | none =>
    rw [hk] at hl
    simp only [Option.map_none, Option.getD_none, Option.isSome_none] at hl ⊢
    clear h h1
    go_enter Try.func23, Try.ntmps23
    go_wp2
    have hb1 : Below w.heap.size w ((w.alloc (.cells #[.int .i64 0, .int .i64 0] 57)).alloc (.cells #[.int .i64 0, .int .i64 0] 57)) := hb0.alloc (by simp) _
    refine bodyPost_ret (v := .tuple #[.agg #[.int .i64 0, .int .i64 0], .int .i64 22]) (by simp [results, Try.results23, go_sem]) rfl ⟨rfl, hb1⟩
  | some p =>
    obtain ⟨n, s⟩ := p
    rw [hk] at hl
    simp only [Option.map_some, Option.getD_some, Option.isSome_some, plV] at hl ⊢
    clear h h1
    go_enter Try.func23, Try.ntmps23
    go_wp2
    have hb1 : Below w.heap.size w ((w.alloc (.cells #[.int .i64 n, .int .i64 (s : Int)] 57)).alloc (.cells #[.int .i64 n, .int .i64 (s : Int)] 57)) := ((Below.refl _ _).alloc (Nat.le_refl _) _).alloc (by simp) _
    refine bodyPost_ret (v := .tuple #[.agg #[.int .i64 n, .int .i64 (s : Int)], .int .i64 0]) (by simp [results, Try.results23, go_sem]) rfl ⟨rfl, hb1⟩

end Go.Proofs.Ytmfoenhbldacfaa
