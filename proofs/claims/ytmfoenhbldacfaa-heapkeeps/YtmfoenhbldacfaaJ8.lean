/- HeapKeeps. -/
import Derived.Test.YtmfoenhbldacfaaJ7
namespace Go.Proofs.Ytmfoenhbldacfaa
open Go.RowKit
set_option linter.unusedVariables false
set_option linter.unusedSimpArgs false

/-- Block la is an array of 256 numbers. -/
structure La (w : World) (la : Nat) (T : List Int) : Prop where
  row : w.heap[la]? = some (.cells (T.map (Value.int .i64)).toArray 50 (0, 0))
  len : T.length = 256
theorem La.cell {w : World} {la : Nat} {T : List Int} (h : La w la T) {i : Nat} (hi : i < 256) : w.cell? ⟨la, i, none⟩ = some (.int .i64 (nth T i)) := by
  have := h.len
  rw [cell_of_row _ _ _ _ _ _ h.row]
  simp [nth, show i < T.length from by omega]
theorem La.frozen {w : World} {la : Nat} {T : List Int} (h : La w la T) (i : Nat) : w.frozen? ⟨la, i, none⟩ = false := by unfold World.frozen?; rw [h.row]; rfl
theorem La.lt {w : World} {la : Nat} {T : List Int} (h : La w la T) : la < w.heap.size := (Array.getElem?_eq_some_iff.1 h.row).1
theorem La.later {w w' : World} {la : Nat} {T : List Int} (h : La w la T) (k : Below w.heap.size w w') : La w' la T := ⟨by rw [k.block la h.lt]; exact h.row, h.len⟩
theorem La.ft {B : Nat} {w w' : World} {la : Nat} {T : List Int} (h : La w la T) (k : Ft B noX w w') : La w' la T := ⟨k.x h.row (nh_cells (by decide) (by decide) (by decide)), h.len⟩
theorem La.set {w : World} {la : Nat} {T : List Int} (h : La w la T) (i : Nat) (v : Int) : La (w.setCell ⟨la, i, none⟩ (.int .i64 v)) la (T.set i v) :=
  ⟨by simp [World.setCell, Array.getElem?_modify, h.row], by rw [List.length_set]; exact h.len⟩
theorem La.setFt {B : Nat} {w : World} {la : Nat} {T : List Int} (h : La w la T) (hB : B ≤ la) (i : Nat) (v : Value) : Below B w (w.setCell ⟨la, i, none⟩ v) := ⟨rfl, rfl, rfl, by simp [World.setCell], fun k hk => Below.heap_setCell _ _ _ _ (by show k ≠ la; omega)⟩
theorem HA.setOther {B : Nat} {w : World} {hb : Nat} {M : Int → Option (List Int)} {N k : Nat} (h : HA B w hb M N k) {la : Nat} {T : List Int} (hl : La w la T) (i : Nat) (v : Value) : HA B (w.setCell ⟨la, i, none⟩ v) hb M N k := by
  obtain ⟨H, h1, h2, r⟩ := h.ex
  refine ⟨H, h1, h2.keep (by simp [World.setCell]) (fun b o _ e hy => Below.heap_setCell _ _ _ _ ?_), r⟩
  intro e2
  have e3 : b = la := e2
  rw [e3, hl.row] at e
  cases e
  exact nh_cells (by decide) (by decide) (by decide) hy
theorem zero_last : ∃ Z : Array Value, Z = ((List.replicate 256 (0 : Int)).map (Value.int .i64)).toArray ∧ Z.size = 256 ∧ (∀ w, (zeroValue 50).run Try.prog w = .ok (.agg Z) w) ∧ (Try.prog.info? 50).map (·.size) = some 256 := by
  obtain ⟨h1, h2⟩ := zero_of_info (P := Try.prog) (t := 50) (v := .agg (Array.replicate 256 (.int .i64 0))) (n := 256) (by kernel_rfl)
  refine ⟨Array.replicate 256 (.int .i64 0), ?_, Array.size_replicate, h1, h2⟩
  rw [List.map_replicate, ← rep_arr]

/-- T says of each small number when it was put last, of those that are there. -/
structure KM (T : List Int) (M : Int → Option (List Int)) : Prop where
  len : T.length = 256
  rng : ∀ k, k < 256 → 0 ≤ nth T k ∧ nth T k ≤ 60
  has : ∀ j, M j ≠ none ↔ ∃ k : Nat, k < 256 ∧ j = (k : Int) ∧ 0 < nth T k
  rec0 : ∀ (k : Nat) b, k < 256 → M (k : Int) = some b → b ≠ [] ∧ nth b 0 = nth T k - 1
theorem KM.zero : KM (List.replicate 256 0) (fun _ => none) := by
  refine ⟨List.length_replicate, fun k hk => ?_, fun j => ⟨fun h => absurd rfl h, ?_⟩, fun k b _ h => by cases h⟩
  · rw [nth_zeros]; omega
  · rintro ⟨k, _, _, h⟩
    rw [nth_zeros] at h
    omega
theorem KM.no {T : List Int} {M : Int → Option (List Int)} (h : KM T M) {k : Nat} (hk : k < 256) : M (k : Int) = none ↔ ¬ 0 < nth T k := by
  constructor
  · intro e hp
    exact (h.has k).2 ⟨k, hk, rfl, hp⟩ e
  · intro hp
    refine Classical.byContradiction fun e => ?_
    obtain ⟨k', _, e2, h2⟩ := (h.has k).1 e
    have : k = k' := by omega
    subst this
    exact hp h2
/-- One more is put. -/
theorem KM.put {T : List Int} {M : Int → Option (List Int)} (h : KM T M) {x i n : Nat} (hx : x < 256) (hi : i < 60) (hn : 0 < n) :
    KM (T.set x ((i : Int) + 1)) (fun j => if j = (x : Int) then some ((List.replicate n (0 : Int)).set 0 (i : Int)) else M j) := by
  have hl := h.len
  have hnth : ∀ k, nth (T.set x ((i : Int) + 1)) k = if k = x then (i : Int) + 1 else nth T k := fun k => by
    by_cases e : k = x
    · rw [if_pos e, e, nth_set_same (by omega)]
    · rw [if_neg e, nth_set_ne e]
  refine ⟨by rw [List.length_set]; exact hl, fun k hk => ?_, fun j => ?_, fun k b hk hb => ?_⟩
  · rw [hnth]
    split
    · omega
    · exact h.rng k hk
  · by_cases e : j = (x : Int)
    · rw [if_pos e]
      exact ⟨fun _ => ⟨x, hx, e, by rw [hnth, if_pos rfl]; omega⟩, fun _ => by simp⟩
    · rw [if_neg e, h.has]
      constructor
      · rintro ⟨k, h1, h2, h3⟩
        exact ⟨k, h1, h2, by rw [hnth, if_neg (by omega)]; exact h3⟩
      · rintro ⟨k, h1, h2, h3⟩
        rw [hnth, if_neg (by omega)] at h3
        exact ⟨k, h1, h2, h3⟩
  · by_cases e : k = x
    · subst e
      rw [if_pos rfl] at hb
      cases hb
      rw [hnth, if_pos rfl]
      refine ⟨by intro e; have := congrArg List.length e; simp at this; omega, ?_⟩
      rw [nth_set_same (by simp; omega)]
      omega
    · rw [if_neg (by omega)] at hb
      rw [hnth, if_neg e]
      exact h.rec0 k b hk hb
/-- One is dropped, if it was there. -/
theorem KM.drop {T : List Int} {M : Int → Option (List Int)} (h : KM T M) {x : Nat} (hx : x < 256) : KM (T.set x 0) (fun j => if j = (x : Int) then none else M j) := by
  have hl := h.len
  have hnth : ∀ k, nth (T.set x 0) k = if k = x then 0 else nth T k := fun k => by
    by_cases e : k = x
    · rw [if_pos e, e, nth_set_same (by omega)]
    · rw [if_neg e, nth_set_ne e]
  refine ⟨by rw [List.length_set]; exact hl, fun k hk => ?_, fun j => ?_, fun k b hk hb => ?_⟩
  · rw [hnth]
    split
    · omega
    · exact h.rng k hk
  · by_cases e : j = (x : Int)
    · rw [if_pos e]
      refine ⟨fun hh => absurd rfl hh, ?_⟩
      rintro ⟨k, h1, h2, h3⟩
      rw [hnth, if_pos (by omega)] at h3
      omega
    · rw [if_neg e, h.has]
      constructor
      · rintro ⟨k, h1, h2, h3⟩
        exact ⟨k, h1, h2, by rw [hnth, if_neg (by omega)]; exact h3⟩
      · rintro ⟨k, h1, h2, h3⟩
        rw [hnth, if_neg (by omega)] at h3
        exact ⟨k, h1, h2, h3⟩
  · by_cases e : k = x
    · rw [if_pos (by omega)] at hb
      cases hb
    · rw [if_neg (by omega)] at hb
      rw [hnth, if_neg e]
      exact h.rec0 k b hk hb
theorem KM.same {T : List Int} {M : Int → Option (List Int)} (h : KM T M) {x : Nat} (hx : x < 256) (hn : M (x : Int) = none) : KM (T.set x 0) M := by
  have := h.drop hx
  have e : (fun j => if j = (x : Int) then none else M j) = M := by
    funext j
    by_cases e : j = (x : Int)
    · rw [if_pos e, e, hn]
    · rw [if_neg e]
  rwa [e] at this
/-- How many of the first k are there. -/
def cntT (T : List Int) (k : Nat) : Nat := ((List.range k).filter fun i => decide (0 < nth T i)).length
theorem cntT_succ (T : List Int) (k : Nat) : cntT T (k + 1) = if 0 < nth T k then cntT T k + 1 else cntT T k := by
  unfold cntT
  rw [List.range_succ, List.filter_append, List.length_append]
  by_cases h : 0 < nth T k
  · rw [if_pos h]; simp [h]
  · rw [if_neg h]; simp [h]
theorem cntT_le (T : List Int) (k : Nat) : cntT T k ≤ k := by
  unfold cntT
  have := List.length_filter_le (fun i => decide (0 < nth T i)) (List.range k)
  rw [List.length_range] at this
  exact this
theorem HA.count {B : Nat} {w : World} {hb : Nat} {T : List Int} {M : Int → Option (List Int)} {N k : Nat} (h : HA B w hb M N k) (hk : KM T M) : N = cntT T 256 := by
  obtain ⟨H, _, hI, hp, hW, hM, hlen, _⟩ := h.ex
  have := nodup_eq hI.kp (b := ((List.range 256).filter fun i => decide (0 < nth T i)).map (fun (i : Nat) => (i : Int))) (by
    rw [List.nodup_iff_pairwise_ne, List.pairwise_map]
    refine List.Pairwise.filter _ ?_
    have := List.nodup_range (n := 256)
    rw [List.nodup_iff_pairwise_ne] at this
    exact this.imp fun hne e => hne (by omega)) (fun x => by
    rw [hW.rcd_key hI.kp hI.kg, hM, hk.has, List.mem_map]
    constructor
    · rintro ⟨i, h1, h2, h3⟩
      exact ⟨i, List.mem_filter.2 ⟨List.mem_range.2 h1, by simpa using h3⟩, h2.symm⟩
    · rintro ⟨i, h1, h2⟩
      obtain ⟨h3, h4⟩ := List.mem_filter.1 h1
      exact ⟨i, List.mem_range.1 h3, h2.symm, by simpa using h4⟩)
  rw [ks_len, List.length_map] at this
  rw [← hlen, this]
  rfl

end Go.Proofs.Ytmfoenhbldacfaa
