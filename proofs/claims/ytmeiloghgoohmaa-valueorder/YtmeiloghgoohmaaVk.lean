/- Bytes made of a text, and an append to them. -/
import Derived.Test.YtmeiloghgoohmaaV2
import Derived.Laws.IdiomCopy
import Derived.Laws.IdiomStrings
namespace Go.Proofs.Ytmeiloghgoohmaa
open Go.RowKit
set_option linter.unusedVariables false

/-- A row of bytes of the call's own, whatever mark it bears: all its cells may be written. -/
structure Held (w : World) (g n cap : Nat) (l : List Int) : Prop where
  len : l.length = n
  le : n ≤ cap
  max : cap ≤ maxLen
  there : ∀ j, j < cap → (w.cell? ⟨g, j, none⟩).isSome = true
  free : ∀ j, j < cap → w.frozen? ⟨g, j, none⟩ = false
  cells : ∀ j, j < n → w.cell? ⟨g, j, none⟩ = some (.int .u8 (nth l j))

theorem below_setCells (B b : Nat) (hb : B ≤ b) : ∀ (vs : List Value) (o : Nat) (a w : World), Below B a w → Below B a (w.setCells b o vs)
  | [], o, a, w, h => h
  | v :: vs, o, a, w, h => below_setCells B b hb vs (o + 1) a _ (h.setCell hb v)

theorem nth_left {l m : List Int} {j : Nat} (h : j < l.length) : nth (l ++ m) j = nth l j := by rw [nth, nth, List.getElem?_append_left h]
theorem nth_right {l m : List Int} {j : Nat} (h : l.length ≤ j) : nth (l ++ m) j = nth m (j - l.length) := by rw [nth, nth, List.getElem?_append_right h]

theorem add_at (g j : Nat) : (⟨g, 0, none⟩ : Addr).add j = ⟨g, j, none⟩ := by unfold Addr.add; split <;> simp_all
theorem cell_new (w : World) (arr : Array Value) (e : TypeId) (mk : Nat × Nat) (j : Nat) : (w.alloc (.cells arr e mk)).cell? ⟨w.heap.size, j, none⟩ = arr[j]? := by
  have : (w.alloc (.cells arr e mk)).heap[w.heap.size]? = some (.cells arr e mk) := heap_alloc_new w _
  unfold World.cell?
  rw [this]
  rfl
theorem frozen_new (w : World) (arr : Array Value) (e : TypeId) (lo hi : Nat) (j : Nat) (h : j < lo) : (w.alloc (.cells arr e (lo, hi))).frozen? ⟨w.heap.size, j, none⟩ = false := by
  have : (w.alloc (.cells arr e (lo, hi))).heap[w.heap.size]? = some (.cells arr e (lo, hi)) := heap_alloc_new w _
  unfold World.frozen?
  rw [this]
  show (decide (lo ≤ j) && decide (j < hi)) = false
  rw [decide_eq_false (by omega)]; rfl

theorem run_app_held (w : World) (B g n cap : Nat) (tx ty : TypeId) (x : Value) (l m : List Int) (h : Held w g n cap l) (hg : B ≤ g) (hs : SrcB w tx x m) (hlm : l.length + m.length ≤ 100000) (hB : B ≤ w.heap.size) :
    ∃ ao q w', (Builtin.append_ #[22, tx] ty #[.slice (some ⟨g, 0, none⟩) n cap, x]).run Try.prog w = .ok (.slice ao (l ++ m).length q) w' ∧ Rd .u8 w' ao (l ++ m).length q (l ++ m) ∧ Below B w w' := by
  obtain ⟨i, hi, hz, hsz, hby⟩ := info_parts Try.info5
  have ht := Try.underlying22
  have hln := h.len
  have hs' : Src Try.prog i.size tx x m.length (m.map (Value.int .u8)) w := by rw [hsz]; exact hs
  rw [List.length_append]
  by_cases hroom : n + m.length ≤ cap
  · have hr := run_append_room_src w 22 tx ty 5 i ht hi g 0 n cap x m.length _ hs' hroom
      (fun j hj => by rw [hsz, Nat.zero_add, Nat.mul_one]; rw [List.length_map] at hj; exact h.there _ (by omega))
      (fun j hj => by rw [hsz, Nat.zero_add, Nat.mul_one]; rw [List.length_map] at hj; exact h.free _ (by omega))
    rw [hsz, Nat.zero_add, Nat.mul_one] at hr
    refine ⟨some ⟨g, 0, none⟩, cap, _, by rw [hr, hln], ⟨by simp, by omega, h.max, fun e => by simp at e, fun _ => ⟨g, 0, rfl, fun j hj => ?_⟩⟩, below_setCells B g hg _ _ _ _ (Below.refl _ _)⟩
    rw [Nat.zero_add]
    by_cases hj2 : j < n
    · rw [World.cell?_setCells_out g _ _ _ _ (fun _ _ => .inl hj2), h.cells j hj2, nth_left (by omega)]
    · have := World.cell?_setCells_in g (m.map (Value.int .u8)) n w (fun q hq => by rw [List.length_map] at hq; exact h.there _ (by omega)) (j - n) (by rw [List.length_map]; omega)
      rw [show n + (j - n) = j from by omega] at this
      rw [this, nth_right (by omega), hln, List.getElem_map, nth, List.getElem?_eq_getElem (by omega)]
      rfl
  · have hold : (Builtin.firstCells i.size n (.slice (some ⟨g, 0, none⟩) n cap)).run Try.prog w.drew = .ok (l.map (Value.int .u8)).toArray w.drew := by
      refine run_firstCells_some w.drew i.size n ⟨g, 0, none⟩ n cap (l.map (Value.int .u8)) (by rw [hsz, List.length_map]; omega) fun j u hj => ?_
      rw [List.getElem?_map] at hj
      obtain ⟨y, hy, rfl⟩ := Option.map_eq_some_iff.1 hj
      have hjl : j < l.length := (List.getElem?_eq_some_iff.1 hy).1
      have := h.cells j (by omega)
      rw [nth, hy] at this
      rw [add_at]
      exact this
    have hr := run_append_grow_src w 22 tx ty 5 i (.int .u8 0) ht hi hz (some ⟨g, 0, none⟩) n cap _ hold x m.length _ hs' (by omega) (by omega) (growslice_fits (by omega) (by rw [hby]; omega))
    have hge := grownCap_ge w (n + m.length) cap 5
    have hcm : grownCap w (n + m.length) cap 5 ≤ maxLen := grownCap_le_maxLen w (n + m.length) cap 5 (by unfold maxLen; omega)
    refine ⟨_, _, _, by rw [hr, hln], ⟨by simp, by omega, hcm, fun e => by simp at e, fun _ => ⟨w.heap.size, 0, rfl, fun j hj => ?_⟩⟩, (Below.refl B w).drew.alloc hB _⟩
    have hj' : j < (l.map (Value.int .u8) ++ m.map (Value.int .u8)).length := by simpa using hj
    rw [Nat.zero_add]
    refine (cell_new w.drew _ 5 (0, 0) j).trans ?_
    rw [Array.getElem?_append_left (by simpa using hj), List.getElem?_toArray, ← List.map_append, List.getElem?_map, nth, List.getElem?_eq_getElem (by simpa using hj)]
    rfl

theorem wpList_app_held {w : World} {ops : Array Oper} {rest : List Oper} {o : Oper} {a : Act} {Q : Exit → Act → World → Prop} (hgd : o.guard = none) (s x : Operand) (tx : TypeId)
    (ho : o.op = .call { callee := .builtin .append, args := #[s, x], argTypes := #[22, tx] }) (B g n cap : Nat) (xv : Value) (l m : List Int) (hs : a.eval s = .slice (some ⟨g, 0, none⟩) n cap) (hx : a.eval x = xv) (hh : Held w g n cap l) (hg : B ≤ g) (hsrc : SrcB w tx xv m)
    (hlm : l.length + m.length ≤ 100000) (hB : B ≤ w.heap.size)
    (h : ∀ ao p q w', Rd .u8 w' ao p q (l ++ m) → Below B w w' → wpList Try.prog ops Q rest (a.put o.dst (.slice ao p q)) w') : wpList Try.prog ops Q (o :: rest) a w :=
  wpList_plain hgd fun _ hK => by
    obtain ⟨ao, q, w', hr, h2, h3⟩ := run_app_held w B g n cap tx o.type xv l m hh hg hsrc hlm hB
    unfold Oper.wp execOp
    simp only [ho, resolve, invoke, builtin, Sem.run_bind, Sem.run_pure, Result.andThen_ok, List.map_toArray, List.map_cons, List.map_nil, hs, hx, hr]
    exact hK _ _ (h ao _ q w' h2 h3)

/-- A text made bytes. -/
theorem run_bytes (w : World) (s : ByteArray) (hs : s.size ≤ 100000) : ∃ cap w', (convert 9 22 (.string s)).run Try.prog w = .ok (.slice (some ⟨w.heap.size, 0, none⟩) s.size cap) w' ∧ Held w' w.heap.size s.size cap (nums s) ∧ Below w.heap.size w w' := by
  have hr := run_bytes_of_string (P := Try.prog) w 9 22 5 s Try.underlying9 Try.underlying22 Try.underlying5
  have hge := grownCap_ge w s.size 0 5
  have hcm : grownCap w s.size 0 5 ≤ maxLen := grownCap_le_maxLen w s.size 0 5 (by unfold maxLen; omega)
  generalize grownCap w s.size 0 5 = cap at *
  have hsize : (bytesRow s cap).size = cap := by
    rw [bytesRow, Array.size_append, Array.size_map, Array.size_replicate]
    have : s.data.size = s.size := rfl
    omega
  refine ⟨cap, _, hr, ⟨nums_len s, hge, hcm, fun j hj => ?_, fun j hj => ?_, fun j hj => ?_⟩, (Below.refl _ _).drew.alloc (Nat.le_refl _) _⟩
  · rw [show (w.drew.alloc (.cells (bytesRow s cap) 5 ((bytesRow s cap).size, (bytesRow s cap).size + 1))).cell? ⟨w.heap.size, j, none⟩ = (bytesRow s cap)[j]? from cell_new w.drew _ 5 _ j, Array.getElem?_eq_getElem (by omega)]
    rfl
  · exact frozen_new w.drew _ 5 _ _ j (by omega)
  · refine (cell_new w.drew _ 5 _ j).trans ?_
    have hjs : j < s.data.size := hj
    rw [bytesRow, Array.getElem?_append_left (by rw [Array.size_map]; exact hjs), Array.getElem?_map, Array.getElem?_eq_getElem hjs, nums_nth s j hj]
    rfl

end Go.Proofs.Ytmeiloghgoohmaa
