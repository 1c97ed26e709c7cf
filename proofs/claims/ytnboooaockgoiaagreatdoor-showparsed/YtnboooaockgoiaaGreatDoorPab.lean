import Derived.Test.YtnboooaockgoiaaGreatDoorPaa
import Derived.Deep.Trees
namespace Go.Proofs.YtnboooaockgoiaaGreatDoor
open Go.RowKit
set_option linter.unusedVariables false

/-- What is told of a word, as the program tells it. -/
def tkA (t : Tk) : Value := .agg #[.int .i64 t.1, .string t.2.1, .int .i64 t.2.2.1, .int .i64 t.2.2.2]
/-- The new block of a result. -/
structure Zr (w : World) (r : Nat) : Prop where
  row : w.heap[r]? = some (.cells #[.int .i64 0, .string ⟨#[]⟩, .int .i64 0, .int .i64 0] 91 (0, 0))
theorem Zr.new (w : World) : Zr (w.alloc (.cells #[.int .i64 0, .string ⟨#[]⟩, .int .i64 0, .int .i64 0] 91)) w.heap.size := ⟨heap_alloc_new w _⟩
theorem Zr.lt {w : World} {r : Nat} (h : Zr w r) : r < w.heap.size := (Array.getElem?_eq_some_iff.1 h.row).1
theorem Zr.later {w w' : World} {r : Nat} (h : Zr w r) (hb : Below w.heap.size w w') : Zr w' r := ⟨by rw [hb.block r h.lt]; exact h.row⟩
theorem Zr.cells {w : World} {r : Nat} (h : Zr w r) : w.cell? ⟨r, 0, none⟩ = some (.int .i64 0) ∧ w.cell? ⟨r, 1, none⟩ = some (.string ⟨#[]⟩) ∧ w.cell? ⟨r, 2, none⟩ = some (.int .i64 0) ∧ w.cell? ⟨r, 3, none⟩ = some (.int .i64 0) := by
  unfold World.cell?; rw [h.row]; exact ⟨rfl, rfl, rfl, rfl⟩
theorem Zr.free {w : World} {r : Nat} (h : Zr w r) : w.frozen? ⟨r, 0, none⟩ = false ∧ w.frozen? ⟨r, 1, none⟩ = false ∧ w.frozen? ⟨r, 2, none⟩ = false ∧ w.frozen? ⟨r, 3, none⟩ = false := by
  unfold World.frozen?; rw [h.row]; exact ⟨rfl, rfl, rfl, rfl⟩
theorem But.new {g : Nat} {w w' : World} (h : But g w w') {r : Nat} (hr : w.heap.size ≤ r) (o : Nat) (v : Value) : But g w (w'.setCell ⟨r, o, none⟩ v) :=
  ⟨h.os, h.tape, h.output, by simp [World.setCell]; exact h.size, fun k hk hg => (Below.heap_setCell _ _ _ _ (by show k ≠ r; omega)).trans (h.block k hk hg)⟩
theorem But.alloc {g : Nat} {w w' : World} (h : But g w w') (o : Obj) : But g w (w'.alloc o) :=
  h.trans (But.of ((Below.refl _ _).alloc (Nat.le_refl _) o))
theorem But.behind {g : Nat} {w w' : World} {o : Obj} (h : But g (w.alloc o) w') : But g w w' := ((But.refl g w).alloc o).trans h
end Go.Proofs.YtnboooaockgoiaaGreatDoor
namespace Go.Proofs.YtnboooaockgoiaaGreatDoor
open Go.RowKit
set_option linter.unusedVariables false

theorem bs_extract (s : ByteArray) (a b : Nat) : bs (s.extract a b) = ((bs s).drop a).take (b - a) := by
  rw [bs, bs, ByteArray.data_extract, Array.toList_extract, List.extract_eq_take_drop]
theorem bs_till (p : UInt8 → Bool) (s : ByteArray) (j : Nat) : bs (s.extract j (till p s j)) = ((bs s).drop j).takeWhile p := by
  rw [bs_extract, till, Nat.add_sub_cancel_left]
  exact (List.prefix_iff_eq_take.1 (List.takeWhile_prefix p)).symm
theorem all_till (p : UInt8 → Bool) (s : ByteArray) (j : Nat) : (bs (s.extract j (till p s j))).all p = true := by
  rw [bs_till]
  exact List.all_takeWhile
theorem pA_till {s : ByteArray} {j : Nat} (h : got isDig s j = true) : pA (bs (s.extract j (till isDig s j))) = nA (numV s j (till isDig s j)) := by
  have h1 := all_till isDig s j
  have h2 := till_lt h
  have h3 := till_le (p := isDig) (Nat.le_of_lt (got_lt h))
  have hl : 0 < (bs (s.extract j (till isDig s j))).length := by rw [bs_length, ByteArray.size_extract]; omega
  rw [pA, isNum, h1, Bool.and_true, decide_eq_true hl, if_pos rfl, numV]

end Go.Proofs.YtnboooaockgoiaaGreatDoor
namespace Go.Proofs.YtnboooaockgoiaaGreatDoor
open Go.RowKit
set_option linter.unusedVariables false

/-- Bytes as numbers. -/
def lz (l : List UInt8) : List Int := l.map fun c => (c.toNat : Int)
theorem lz_str (l : List UInt8) : strOfNums (lz l) = ⟨l.toArray⟩ := by
  have : ((lz l).map fun n => UInt8.ofNat n.toNat) = l := by
    rw [lz, List.map_map]
    conv => rhs; rw [← List.map_id l]
    apply List.map_congr_left
    intro x _
    simp
  rw [strOfNums, this]

theorem got39 {s : ByteArray} {k : Nat} (h : got (isB 39) s k = true) : ∃ hk : k < s.size, s[k].toNat = 39 := by
  have hk := got_lt h
  rw [got_at hk, isB, decide_eq_true_iff] at h
  exact ⟨hk, h⟩
theorem quo_nil : quo [] = ([], 0, false) := by rw [quo]
theorem quo_cons (x : UInt8) (l : List UInt8) (h1 : isB 39 x = false) : quo (x :: l) = if isT x then (x :: (quo l).1, (quo l).2.1 + 1, (quo l).2.2) else ([], 0, false) := by
  cases l with
  | nil =>
    simp only [quo, h1, Bool.false_eq_true, if_false]
  | cons y r => rw [quo, if_neg (by rw [h1]; simp)]
theorem quo_close {s : ByteArray} {k : Nat} (h : got (isB 39) s k = true) (h2 : got (isB 39) s (k + 1) = false) : quo ((bs s).drop k) = ([], 1, true) := by
  have hk := got_lt h
  rw [got_at hk] at h
  rw [drop_at hk]
  cases Nat.lt_or_ge (k + 1) s.size with
  | inl hk2 =>
    rw [got_at hk2] at h2
    rw [drop_at hk2, quo, if_pos h, if_neg (by rw [h2]; simp)]
  | inr hk2 => rw [List.drop_of_length_le (by rw [bs_length]; exact hk2), quo, if_pos h]
theorem quo_two {s : ByteArray} {k : Nat} (h : got (isB 39) s k = true) (hk : k + 1 < s.size) (h2 : got (isB 39) s (k + 1) = true) : quo ((bs s).drop k) = (s[k + 1] :: (quo ((bs s).drop (k + 1 + 1))).1, (quo ((bs s).drop (k + 1 + 1))).2.1 + 2, (quo ((bs s).drop (k + 1 + 1))).2.2) := by
  obtain ⟨k1, e1⟩ := got39 h
  obtain ⟨k2, e2⟩ := got39 h2
  have e : s[k] = s[k + 1] := UInt8.toNat_inj.1 (e1.trans e2.symm)
  rw [got_at k1] at h
  rw [got_at k2] at h2
  rw [drop_at k1, drop_at k2, quo, if_pos h, if_pos h2, e]
theorem quo_txt {s : ByteArray} {k : Nat} (hk : k < s.size) (h : got (isB 39) s k = false) (h2 : got isT s k = true) : quo ((bs s).drop k) = (s[k] :: (quo ((bs s).drop (k + 1))).1, (quo ((bs s).drop (k + 1))).2.1 + 1, (quo ((bs s).drop (k + 1))).2.2) := by
  rw [got_at hk] at h h2
  rw [drop_at hk, quo_cons _ _ h, if_pos h2]
theorem quo_bad {s : ByteArray} {k : Nat} (h : got (isB 39) s k = false) (h2 : got isT s k = false) : quo ((bs s).drop k) = ([], 0, false) := by
  cases Nat.lt_or_ge k s.size with
  | inl hk =>
    rw [got_at hk] at h h2
    rw [drop_at hk, quo_cons _ _ h, if_neg (by rw [h2]; simp)]
  | inr hk => rw [List.drop_of_length_le (by rw [bs_length]; exact hk), quo_nil]

/-- Up to k the letters l were read of the text value at j. -/
def Qv (s : ByteArray) (j k : Nat) (l : List UInt8) : Prop := (quo ((bs s).drop (j + 1))).1 = l ++ (quo ((bs s).drop k)).1 ∧ (quo ((bs s).drop (j + 1))).2.1 + (j + 1) = k + (quo ((bs s).drop k)).2.1 ∧ (quo ((bs s).drop (j + 1))).2.2 = (quo ((bs s).drop k)).2.2
theorem Qv.start (s : ByteArray) (j : Nat) : Qv s j (j + 1) [] := ⟨rfl, by omega, rfl⟩
theorem Qv.txt {s : ByteArray} {j k : Nat} {l : List UInt8} (q : Qv s j k l) (hk : k < s.size) (h : got (isB 39) s k = false) (h2 : got isT s k = true) : Qv s j (k + 1) (l ++ [s[k]]) := by
  obtain ⟨q1, q2, q3⟩ := q
  rw [quo_txt hk h h2] at q1 q2 q3
  exact ⟨by rw [q1]; simp, by rw [q2]; simp; omega, q3⟩
theorem Qv.two {s : ByteArray} {j k : Nat} {l : List UInt8} (q : Qv s j k l) (hk : k + 1 < s.size) (h : got (isB 39) s k = true) (h2 : got (isB 39) s (k + 1) = true) : Qv s j (k + 1 + 1) (l ++ [s[k + 1]]) := by
  obtain ⟨q1, q2, q3⟩ := q
  rw [quo_two h hk h2] at q1 q2 q3
  exact ⟨by rw [q1]; simp, by rw [q2]; simp; omega, q3⟩
theorem Qv.two' {s : ByteArray} {j k m : Nat} {l : List UInt8} (q : Qv s j k l) (hm : m = k + 1) (hk : m < s.size) (h : got (isB 39) s k = true) (h2 : got (isB 39) s m = true) : Qv s j (m + 1) (l ++ [s[m]]) := by
  subst hm
  exact q.two hk h h2
theorem Qv.close {s : ByteArray} {j k : Nat} {l : List UInt8} (q : Qv s j k l) (h : got (isB 39) s k = true) (h2 : got (isB 39) s (k + 1) = false) : quoW s j = if 30 < l.length then flt j 7 else wrd (4, ⟨l.toArray⟩, 0, j) (k + 1) := by
  obtain ⟨q1, q2, q3⟩ := q
  rw [quo_close h h2] at q1 q2 q3
  rw [List.append_nil] at q1
  have e : j + 1 + (quo ((bs s).drop (j + 1))).2.1 = k + 1 := by have : ((([], 1, true) : List UInt8 × Nat × Bool)).2.1 = 1 := rfl; omega
  rw [quoW, q3, if_pos rfl, q1, e]
theorem Qv.bad {s : ByteArray} {j k : Nat} {l : List UInt8} (q : Qv s j k l) (h : got (isB 39) s k = false) (h2 : got isT s k = false) : quoW s j = flt k 4 := by
  obtain ⟨q1, q2, q3⟩ := q
  rw [quo_bad h h2] at q1 q2 q3
  have e : j + 1 + (quo ((bs s).drop (j + 1))).2.1 = k := by have : ((([], 0, false) : List UInt8 × Nat × Bool)).2.1 = 0 := rfl; omega
  rw [quoW, q3, if_neg (by simp), e]

/-- Bytes made a text. -/
theorem conv_all {w : World} {ao : Option Addr} {n c : Nat} {xs : List Int} (h : Rd .u8 w ao n c xs) : (convert 22 9 (.slice ao n c)).run Tryz.prog w = .ok (.string (strOfNums xs)) w := by
  by_cases hn : 0 < n
  · obtain ⟨b, o, rfl, hc⟩ := h.cells hn
    exact run_convert_bytes_arg w 22 5 Tryz.underlying22 Tryz.underlying5 b o n c xs h.len (fun i hi => by rw [hc i hi]; rfl) 9 Tryz.underlying9
  · obtain rfl : n = 0 := by omega
    obtain rfl : xs = [] := List.eq_nil_of_length_eq_zero h.len
    rcases ao with _ | a
    · exact run_convert_bytes_nil w 22 5 Tryz.underlying22 Tryz.underlying5 0 c 9 Tryz.underlying9
    · rw [run_convert_bytes_string w 22 9 5 _ 0 c Tryz.underlying22 Tryz.underlying5 Tryz.underlying9, run_bytesToString w a 0 c [] (by simp [loadCells, loadCellsFrom])]
      rfl

end Go.Proofs.YtnboooaockgoiaaGreatDoor
namespace Go.Proofs.YtnboooaockgoiaaGreatDoor
open Go.RowKit
set_option linter.unusedVariables false

end Go.Proofs.YtnboooaockgoiaaGreatDoor
namespace Go.Proofs.YtnboooaockgoiaaGreatDoor
open Go.RowKit
set_option linter.unusedVariables false

theorem oneW_name {s : ByteArray} {j : Nat} (h : got isL s j = true) : oneW s j = nameW s j := by rw [oneW, if_pos h]
theorem oneW_num {s : ByteArray} {j : Nat} (h : got isL s j = false) (h2 : got isDig s j = true) : oneW s j = numW s j := by rw [oneW, if_neg (by rw [h]; simp), if_pos h2]
theorem oneW_quo {s : ByteArray} {j : Nat} (h : got isL s j = false) (h2 : got isDig s j = false) (h3 : got (isB 39) s j = true) : oneW s j = quoW s j := by rw [oneW, if_neg (by rw [h]; simp), if_neg (by rw [h2]; simp), if_pos h3]
theorem oneW_sgn {s : ByteArray} {j : Nat} (h : got isL s j = false) (h2 : got isDig s j = false) (h3 : got (isB 39) s j = false) : oneW s j = sgnW s j := by rw [oneW, if_neg (by rw [h]; simp), if_neg (by rw [h2]; simp), if_neg (by rw [h3]; simp)]

end Go.Proofs.YtnboooaockgoiaaGreatDoor
namespace Go.Proofs.YtnboooaockgoiaaGreatDoor
open Go.RowKit
set_option linter.unusedVariables false

/-- The word at place i. -/
def tth (l : List Tk) (i : Nat) : Tk := l[i]?.getD (0, ⟨#[]⟩, 0, 0)
/-- The four cells of a word from o on in block b. -/
def Ct (w : World) (b o : Nat) (t : Tk) : Prop := w.cell? ⟨b, o, none⟩ = some (.int .i64 t.1) ∧ w.cell? ⟨b, o + 1, none⟩ = some (.string t.2.1) ∧ w.cell? ⟨b, o + 2, none⟩ = some (.int .i64 t.2.2.1) ∧ w.cell? ⟨b, o + 3, none⟩ = some (.int .i64 t.2.2.2)
theorem Ct.later {w w' : World} {b o : Nat} {t : Tk} (h : Ct w b o t) (hb : Below w.heap.size w w') : Ct w' b o t := ⟨cell_later hb h.1, cell_later hb h.2.1, cell_later hb h.2.2.1, cell_later hb h.2.2.2⟩
/-- The slice value '.slice ao n c' reads, in w, as the n words ts. -/
structure RdT (w : World) (ao : Option Addr) (n c : Nat) (ts : List Tk) : Prop where
  len : ts.length = n
  cap : n ≤ c
  max : c ≤ 9223372036854775807
  non : ao = none → c = 0
  cells : 0 < n → ∃ b o, ao = some ⟨b, o, none⟩ ∧ ∀ i, i < n → Ct w b (o + i * 4) (tth ts i)
theorem RdT.nil (w : World) : RdT w none 0 0 [] := ⟨rfl, Nat.le_refl _, by omega, fun _ => rfl, fun h => absurd h (Nat.lt_irrefl _)⟩
theorem RdT.later {w w' : World} {ao : Option Addr} {n c : Nat} {ts : List Tk} (h : RdT w ao n c ts) (hb : Below w.heap.size w w') : RdT w' ao n c ts :=
  ⟨h.len, h.cap, h.max, h.non, fun hn => by
    obtain ⟨b, o, ha, hc⟩ := h.cells hn
    exact ⟨b, o, ha, fun i hi => (hc i hi).later hb⟩⟩

theorem Tryz.info91 : (Tryz.prog.info? 91).map (fun i => (i.zero, i.size, i.bytes)) = some (some (.agg #[.int .i64 0, .string ⟨#[]⟩, .int .i64 0, .int .i64 0]), 4, 40) := by kernel_rfl

/-- The cells of a word. -/
def cellsT (t : Tk) : List Value := [.int .i64 t.1, .string t.2.1, .int .i64 t.2.2.1, .int .i64 t.2.2.2]
/-- The value v is a slice of words of the call's own (its block from B on), and reads as l. -/
def OwnT (B : Nat) (w : World) (v : Value) (l : List Tk) : Prop := w.ownsRow B 91 4 v l.length (l.flatMap cellsT)
theorem OwnT.nil (B : Nat) (w : World) : OwnT B w (.slice none 0 0) [] := World.ownsRow_nil w B 91 4
theorem OwnT.alloc {B : Nat} {w : World} {v : Value} {l : List Tk} (h : OwnT B w v l) (o : Obj) : OwnT B (w.alloc o) v l := World.ownsRow.alloc h o
theorem OwnT.later {B : Nat} {w w' : World} {v : Value} {l : List Tk} (h : OwnT B w v l) (hb : Below w.heap.size w w') : OwnT B w' v l := by
  refine ⟨h.1, ?_⟩
  rcases h.2 with k | ⟨g, cap, cur, hv, hg, hh, r⟩
  · exact .inl k
  · exact .inr ⟨g, cap, cur, hv, hg, by rw [hb.block g (Array.getElem?_eq_some_iff.1 hh).1]; exact hh, r⟩
theorem cells_at : ∀ {l : List Tk} {i : Nat}, i < l.length → (l.flatMap cellsT)[i * 4]? = some (.int .i64 (tth l i).1) ∧ (l.flatMap cellsT)[i * 4 + 1]? = some (.string (tth l i).2.1) ∧ (l.flatMap cellsT)[i * 4 + 2]? = some (.int .i64 (tth l i).2.2.1) ∧ (l.flatMap cellsT)[i * 4 + 3]? = some (.int .i64 (tth l i).2.2.2)
  | [], i, h => by simp at h
  | v :: l, 0, h => ⟨rfl, rfl, rfl, rfl⟩
  | v :: l, i + 1, h => by
    have ih := cells_at (l := l) (i := i) (by simpa using h)
    have e : tth (v :: l) (i + 1) = tth l i := by simp [tth]
    have el : (cellsT v).length = 4 := rfl
    rw [e, List.flatMap_cons, show (i + 1) * 4 = i * 4 + 4 from by omega]
    refine ⟨?_, ?_, ?_, ?_⟩
    · rw [List.getElem?_append_right (by rw [el]; omega), show i * 4 + 4 - (cellsT v).length = i * 4 from by rw [el]; omega]; exact ih.1
    · rw [List.getElem?_append_right (by rw [el]; omega), show i * 4 + 4 + 1 - (cellsT v).length = i * 4 + 1 from by rw [el]; omega]; exact ih.2.1
    · rw [List.getElem?_append_right (by rw [el]; omega), show i * 4 + 4 + 2 - (cellsT v).length = i * 4 + 2 from by rw [el]; omega]; exact ih.2.2.1
    · rw [List.getElem?_append_right (by rw [el]; omega), show i * 4 + 4 + 3 - (cellsT v).length = i * 4 + 3 from by rw [el]; omega]; exact ih.2.2.2
theorem OwnT.rd {B : Nat} {w : World} {v : Value} {l : List Tk} (h : OwnT B w v l) : ∃ ao c, v = .slice ao l.length c ∧ RdT w ao l.length c l := by
  rcases h.2 with ⟨rfl, h0⟩ | ⟨g, cap, cur, rfl, hb, hg, hn, hc, hs, ht⟩
  · have : l = [] := List.eq_nil_of_length_eq_zero h0
    subst this
    exact ⟨none, 0, rfl, RdT.nil w⟩
  · refine ⟨_, cap, rfl, ⟨rfl, hn, hc, fun e => by simp at e, fun hp => ⟨g, 0, rfl, fun i hi => ?_⟩⟩⟩
    have c0 := World.ownsRow.cellAt h (i * 4) (by omega)
    have c1 := World.ownsRow.cellAt h (i * 4 + 1) (by omega)
    have c2 := World.ownsRow.cellAt h (i * 4 + 2) (by omega)
    have c3 := World.ownsRow.cellAt h (i * 4 + 3) (by omega)
    obtain ⟨e0, e1, e2, e3⟩ := cells_at hi
    rw [Nat.zero_add]
    exact ⟨c0.trans e0, c1.trans e1, c2.trans e2, c3.trans e3⟩
theorem OwnT.below {B : Nat} {w w' : World} {v : Value} {l : List Tk} (h : OwnT B w v l) (hB : B ≤ w.heap.size) (hg : w.grownBy w' v.ownBlock) : Below B w w' :=
  below_grown (Below.refl B w) hB h (Nat.le_refl _) hg
theorem Ct.news {w : World} {g : Nat} {v : Tk} (h : Ct w g 0 v) : ∀ (j : Nat) (u : Value), (cellsT v)[j]? = some u → w.cell? ((⟨g, 0, none⟩ : Addr).add j) = some u := by
  intro j u hj
  match j, hj with
  | 0, hj => simp [cellsT] at hj; subst hj; simpa [Addr.add] using h.1
  | 1, hj => simp [cellsT] at hj; subst hj; simpa [Addr.add] using h.2.1
  | 2, hj => simp [cellsT] at hj; subst hj; simpa [Addr.add] using h.2.2.1
  | 3, hj => simp [cellsT] at hj; subst hj; simpa [Addr.add] using h.2.2.2
  | j + 4, hj => simp [cellsT] at hj
theorem Ct.new (w : World) (v : Tk) (e : TypeId) : Ct (w.alloc (.cells #[.int .i64 v.1, .string v.2.1, .int .i64 v.2.2.1, .int .i64 v.2.2.2] e)) w.heap.size 0 v :=
  ⟨cell_new w _ e (0, 0) 0, cell_new w _ e (0, 0) 1, cell_new w _ e (0, 0) 2, cell_new w _ e (0, 0) 3⟩

theorem run_appT (w : World) (B : Nat) (ty : TypeId) (v : Value) (l : List Tk) (g : Nat) (x : Tk) (hown : OwnT B w v l) (hx : Ct w g 0 x) (hl : l.length ≤ 1000) (hB : B ≤ w.heap.size) :
    ∃ v' w', (Builtin.append_ #[84, 84] ty #[v, .slice (some ⟨g, 0, none⟩) 1 1]).run Tryz.prog w = .ok v' w' ∧ OwnT B w' v' (l ++ [x]) ∧ w.grownBy w' v.ownBlock := by
  obtain ⟨i, hi, hz, hsz, hby⟩ := info_parts Tryz.info91
  obtain ⟨v', w', hr, h2, h3, _⟩ := run_append_own (P := Tryz.prog) w B 84 ty 91 i _ 4 40 Tryz.underlying84 hi hz hsz hby rfl (by omega) v l.length _ hown ⟨g, 0, none⟩ 1 1 (cellsT x) rfl hx.news
    (by intro u hu; simp [cellsT] at hu; rcases hu with rfl | rfl | rfl | rfl <;> rfl) (by unfold maxLen; omega) (by omega) hB
  refine ⟨v', w', hr, ?_, h3⟩
  unfold OwnT
  simpa using h2
theorem wpList_appT {w : World} {ops : Array Oper} {rest : List Oper} {o : Oper} {a : Act} {Q : Exit → Act → World → Prop} (hgd : o.guard = none) (s x : Operand)
    (ho : o.op = .call { callee := .builtin .append, args := #[s, x], argTypes := #[84, 84] }) (B : Nat) (v : Value) (l : List Tk) (g : Nat) (y : Tk) (hs : a.eval s = v) (hx : a.eval x = .slice (some ⟨g, 0, none⟩) 1 1) (hown : OwnT B w v l) (hy : Ct w g 0 y)
    (hl : l.length ≤ 1000) (hB : B ≤ w.heap.size)
    (h : ∀ v' w', OwnT B w' v' (l ++ [y]) → Below B w w' → (∀ k, k < w.heap.size → some k ≠ v.ownBlock → w'.heap[k]? = w.heap[k]?) → wpList Tryz.prog ops Q rest (a.put o.dst v') w') : wpList Tryz.prog ops Q (o :: rest) a w :=
  wpList_plain hgd fun _ hK => by
    obtain ⟨v', w', hr, h2, h3⟩ := run_appT w B o.type v l g y hown hy hl hB
    unfold Oper.wp execOp
    simp only [ho, resolve, invoke, builtin, Sem.run_bind, Sem.run_pure, Result.andThen_ok, List.map_toArray, List.map_cons, List.map_nil, hs, hx, hr]
    exact hK _ _ (h v' w' h2 (hown.below hB h3) fun k hk hv => h3.block k hk hv)
end Go.Proofs.YtnboooaockgoiaaGreatDoor
namespace Go.Proofs.YtnboooaockgoiaaGreatDoor
open Go.RowKit
set_option linter.unusedVariables false

theorem Lx.zero {s : ByteArray} {k : Nat} {l : List Tk} {a e : Int} (h : Lx s k l a e) (he : e = 0) : a = 0 := by
  rcases h.step with ⟨h1, _, _, rfl⟩ | ⟨_, _, _, rfl, _⟩ | ⟨_, _, _, _, rfl, _⟩ | ⟨_, _, _, h4, _⟩
  · exact absurd he h1
  · rfl
  · rfl
  · exact absurd he h4
theorem Lx.none {s : ByteArray} {k : Nat} {l : List Tk} {a e : Int} (h : Lx s k l a e) (he : e ≠ 0) : l = [] := by
  rcases h.step with ⟨_, rfl, _⟩ | ⟨_, _, _, _, rfl⟩ | ⟨_, _, _, _, _, rfl, _⟩ | ⟨_, _, rfl, _⟩
  · rfl
  · exact absurd rfl he
  · exact absurd rfl he
  · rfl

/-- Up to k the words l were read. -/
def Up (s : ByteArray) (k : Nat) (l : List Tk) : Prop := ∀ ts a e, Lx s k ts a e → (e = 0 → Lx s 0 (l ++ ts) a e) ∧ (e ≠ 0 → Lx s 0 [] a e)
theorem Up.start (s : ByteArray) : Up s 0 [] := fun ts a e h => ⟨fun _ => h, fun he => by rw [h.none he] at h; exact h⟩
theorem Up.more {s : ByteArray} {k : Nat} {l : List Tk} (u : Up s k l) (h1 : (wordW s k).er = 0) (h2 : (wordW s k).tk.1 ≠ 6) : Up s (wordW s k).nx (l ++ [(wordW s k).tk]) := by
  intro ts a e h
  refine ⟨fun he => ?_, fun he => ?_⟩
  · subst he
    obtain rfl := h.zero rfl
    have := (u _ _ _ (Lx.more k ts h1 h2 h)).1 rfl
    simpa using this
  · obtain rfl := h.none he
    exact (u _ _ _ (Lx.far k a e h1 h2 h he)).2 he
theorem Up.fin {s : ByteArray} {k : Nat} {l : List Tk} (u : Up s k l) (h1 : (wordW s k).er = 0) (h2 : (wordW s k).tk.1 = 6) : Lx s 0 (l ++ [(wordW s k).tk]) 0 0 := (u _ _ _ (Lx.fin k h1 h2)).1 rfl
theorem Up.bad {s : ByteArray} {k : Nat} {l : List Tk} (u : Up s k l) (h1 : (wordW s k).er ≠ 0) : Lx s 0 [] (wordW s k).pl (wordW s k).er := (u _ _ _ (Lx.bad k h1)).2 h1

end Go.Proofs.YtnboooaockgoiaaGreatDoor
namespace Go.Proofs.YtnboooaockgoiaaGreatDoor
open Go.RowKit
set_option linter.unusedVariables false

end Go.Proofs.YtnboooaockgoiaaGreatDoor
namespace Go.Proofs.YtnboooaockgoiaaGreatDoor
open Go.RowKit
set_option linter.unusedVariables false

/-- What a node of an expression has besides its number: Value (Kind, Int, Text), Table, Name. -/
abbrev Pay := Int × Int × ByteArray × ByteArray × ByteArray
/-- An expression: '.node 0 number payload left right'. -/
abbrev Tr := Go.Deep.BT Pay
def nilP : Pay := (0, 0, ⟨#[]⟩, ⟨#[]⟩, ⟨#[]⟩)
def tInt (n : Int) : Tr := .node 0 1 (1, n, ⟨#[]⟩, ⟨#[]⟩, ⟨#[]⟩) .nil .nil
def tText (s : ByteArray) : Tr := .node 0 1 (2, 0, s, ⟨#[]⟩, ⟨#[]⟩) .nil .nil
def tCol (t n : ByteArray) : Tr := .node 0 2 (0, 0, ⟨#[]⟩, t, n) .nil .nil
def tOne (op : Nat) (x : Tr) : Tr := .node 0 op nilP x .nil
def tTwo (op : Nat) (x y : Tr) : Tr := .node 0 op nilP x y

/-- A fault's place and the fault; or what was read, and the words behind it. -/
abbrev Re (α : Type) := Sum (Int × Int) (α × List Tk)
/-- A fault's place and the fault; or the words that are yet to be read. -/
abbrev Sa := Sum (Int × Int) (List Tk)
def stO {α : Type} : Re α → Sa
  | .inl x => .inl x
  | .inr x => .inr x.2
def runP {α : Type} (P : List Tk → Re α) : Sa → Re α
  | .inl x => .inl x
  | .inr ts => P ts
def thenR {α β : Type} (x : Re α) (f : α → List Tk → Re β) : Re β :=
  match x with
  | .inl e => .inl e
  | .inr y => f y.1 y.2
/-- How much is yet to be read. -/
def szS : Sa → Nat
  | .inl _ => 0
  | .inr ts => ts.length

/-- The last word is the end. -/
def Ended : List Tk → Prop
  | [] => False
  | t :: r => t.1 = 6 ∨ Ended r

/-- Is the first word this one of the grammar's? -/
def isTk (s : ByteArray) : List Tk → Bool
  | [] => false
  | t :: _ => (decide (t.1 = 2) || decide (t.1 = 5)) && decide (t.2.1 = s)
def atOf : List Tk → Int
  | [] => 0
  | t :: _ => t.2.2.2
def kdOf : List Tk → Int
  | [] => 0
  | t :: _ => t.1
def failS (e : Int) : Sa → Sa
  | .inl x => .inl x
  | .inr ts => .inl (atOf ts, e)
def takeB (s : ByteArray) : Sa → Bool
  | .inl _ => false
  | .inr ts => isTk s ts
def takeS (s : ByteArray) : Sa → Sa
  | .inl x => .inl x
  | .inr ts => if isTk s ts then .inr ts.tail else .inr ts
def wantS (s : ByteArray) : Sa → Sa
  | .inl x => .inl x
  | .inr ts => if isTk s ts then .inr ts.tail else .inl (atOf ts, 5)
def endS : Sa → Sa
  | .inl x => .inl x
  | .inr ts => if kdOf ts = 6 then .inr ts else .inl (atOf ts, 5)
/-- What the first word means among these; 0: it is none of them. -/
def oneOf : List (ByteArray × Int) → List Tk → Int
  | [], _ => 0
  | c :: l, ts => if isTk c.1 ts then c.2 else oneOf l ts
def oneB (l : List (ByteArray × Int)) : Sa → Int
  | .inl _ => 0
  | .inr ts => oneOf l ts
def oneS (l : List (ByteArray × Int)) : Sa → Sa
  | .inl x => .inl x
  | .inr ts => if l.any (fun c => isTk c.1 ts) then .inr ts.tail else .inr ts

/-- The word itself, if it is of that kind. -/
def kindP (k : Int) (ts : List Tk) : Re Tk :=
  match ts with
  | [] => .inl (0, 5)
  | t :: r => if t.1 = k then .inr (t, r) else .inl (t.2.2.2, 5)
def nameP (ts : List Tk) : Re ByteArray := thenR (kindP 1 ts) fun t r => .inr (t.2.1, r)
def columnP (ts : List Tk) : Re Tr :=
  thenR (nameP ts) fun n r => if isTk ⟨#[46]⟩ r then thenR (nameP r.tail) fun m r' => .inr (tCol n m, r') else .inr (tCol ⟨#[]⟩ n, r)

/-- Parts with one of these words between each two, from the left. -/
def chainL (P : List Tk → Re Tr) (l : List (ByteArray × Int)) : Nat → Tr → List Tk → Re Tr
  | 0, x, ts => .inr (x, ts)
  | k + 1, x, ts => if oneOf l ts = 0 then .inr (x, ts) else thenR (P ts.tail) fun y r => chainL P l k (tTwo (oneOf l ts).toNat x y) r
def chainP (P : List Tk → Re Tr) (l : List (ByteArray × Int)) (ts : List Tk) : Re Tr := thenR (P ts) fun x r => chainL P l r.length x r

def opsOr : List (ByteArray × Int) := [(⟨#[111, 114]⟩, 15)]
def opsAnd : List (ByteArray × Int) := [(⟨#[97, 110, 100]⟩, 14)]
def opsComp : List (ByteArray × Int) := [(⟨#[61]⟩, 8), (⟨#[60, 62]⟩, 9), (⟨#[60]⟩, 10), (⟨#[60, 61]⟩, 11), (⟨#[62]⟩, 12), (⟨#[62, 61]⟩, 13)]
def opsSum : List (ByteArray × Int) := [(⟨#[43]⟩, 5), (⟨#[45]⟩, 6)]
def opsTerm : List (ByteArray × Int) := [(⟨#[42]⟩, 7)]

def leafP (ts : List Tk) : Re Tr :=
  if kdOf ts = 3 then thenR (kindP 3 ts) fun t r => .inr (tInt t.2.2.1, r)
  else if kdOf ts = 4 then thenR (kindP 4 ts) fun t r => .inr (tText t.2.1, r)
  else columnP ts
def termP (U : List Tk → Re Tr) : List Tk → Re Tr := chainP U opsTerm
def sumP (U : List Tk → Re Tr) : List Tk → Re Tr := chainP (termP U) opsSum
def compP (U : List Tk → Re Tr) (ts : List Tk) : Re Tr :=
  thenR (sumP U ts) fun x r => if oneOf opsComp r = 0 then .inr (x, r) else thenR (sumP U r.tail) fun y r' => .inr (tTwo (oneOf opsComp r).toNat x y, r')
def exprOf (N : List Tk → Re Tr) : List Tk → Re Tr := chainP (chainP N opsAnd) opsOr
/-- The word that stands there, and a part within it. -/
def inP (P : Option (List Tk → Re Tr)) (ts : List Tk) : Re Tr :=
  match P with
  | none => .inl (atOf ts, 6)
  | some p => p ts.tail
/-- unary and not, of what may stand one deeper. -/
def unaryOf (U E : Option (List Tk → Re Tr)) (ts : List Tk) : Re Tr :=
  if isTk ⟨#[45]⟩ ts then thenR (inP U ts) fun x r => .inr (tOne 3 x, r)
  else if isTk ⟨#[40]⟩ ts then thenR (inP E ts) fun x r => if isTk ⟨#[41]⟩ r then .inr (x, r.tail) else .inl (atOf r, 5)
  else leafP ts
def notOf (N : Option (List Tk → Re Tr)) (U : List Tk → Re Tr) (ts : List Tk) : Re Tr :=
  if isTk ⟨#[110, 111, 116]⟩ ts then thenR (inP N ts) fun x r => .inr (tOne 4 x, r)
  else compP U ts
/-- unary and not where n more may lie within one another. -/
def unP : Nat → (List Tk → Re Tr) × (List Tk → Re Tr)
  | 0 => (unaryOf none none, notOf none (unaryOf none none))
  | n + 1 => (unaryOf (some (unP n).1) (some (exprOf (unP n).2)), notOf (some (unP n).2) (unaryOf (some (unP n).1) (some (exprOf (unP n).2))))
def unaryP (n : Nat) : List Tk → Re Tr := (unP n).1
def notP (n : Nat) : List Tk → Re Tr := (unP n).2
def exprP (n : Nat) : List Tk → Re Tr := exprOf (notP n)
/-- What may lie one deeper, where n may. -/
def below (f : Nat → List Tk → Re Tr) : Nat → Option (List Tk → Re Tr)
  | 0 => none
  | n + 1 => some (f n)
theorem unaryP_eq (n : Nat) : unaryP n = unaryOf (below unaryP n) (below exprP n) := by cases n <;> rfl
theorem notP_eq (n : Nat) : notP n = notOf (below notP n) (unaryP n) := by cases n <;> rfl
/-- One thing, and one more behind each comma. -/
def listL {α : Type} (P : List Tk → Re α) : Nat → List α → List Tk → Re (List α)
  | 0, l, ts => .inr (l, ts)
  | k + 1, l, ts => if isTk ⟨#[44]⟩ ts then thenR (P ts.tail) fun y r => listL P k (l ++ [y]) r else .inr (l, ts)
def listP {α : Type} (P : List Tk → Re α) (ts : List Tk) : Re (List α) := thenR (P ts) fun x r => listL P r.length [x] r

/-- Nothing that is read makes more words. -/
def Shr {α : Type} (P : List Tk → Re α) : Prop := ∀ ts t r, P ts = .inr (t, r) → r.length ≤ ts.length

theorem Ended.ne {ts : List Tk} (h : Ended ts) : ts ≠ [] := by rintro rfl; exact h
theorem Ended.pos {ts : List Tk} (h : Ended ts) : 0 < ts.length := by cases ts with | nil => exact h.elim | cons => simp
theorem isTk_kd {s : ByteArray} {ts : List Tk} (h : isTk s ts = true) : kdOf ts ≠ 6 ∧ (kdOf ts = 2 ∨ kdOf ts = 5) := by
  cases ts with
  | nil => simp [isTk] at h
  | cons t r =>
    simp [isTk] at h
    simp only [kdOf]
    omega
theorem isTk_ne {s : ByteArray} {ts : List Tk} (h : isTk s ts = true) : ∃ t r, ts = t :: r := by
  cases ts with
  | nil => simp [isTk] at h
  | cons t r => exact ⟨t, r, rfl⟩
theorem oneOf_any {l : List (ByteArray × Int)} {ts : List Tk} (hl : ∀ c ∈ l, c.2 ≠ 0) : (l.any fun c => isTk c.1 ts) = !decide (oneOf l ts = 0) := by
  induction l with
  | nil => rfl
  | cons c l ih =>
    rw [List.any_cons, oneOf, ih (fun x hx => hl x (List.mem_cons_of_mem _ hx))]
    cases h : isTk c.1 ts with
    | false => simp
    | true => simp [hl c List.mem_cons_self]

end Go.Proofs.YtnboooaockgoiaaGreatDoor
namespace Go.Proofs.YtnboooaockgoiaaGreatDoor
open Go.RowKit
set_option linter.unusedVariables false

/-- The word that is to be read; of no kind behind a fault. -/
def nxT : Sa → Tk
  | .inl _ => (0, ⟨#[]⟩, 0, 0)
  | .inr ts => tth ts 0

end Go.Proofs.YtnboooaockgoiaaGreatDoor
namespace Go.Proofs.YtnboooaockgoiaaGreatDoor
open Go.RowKit
set_option linter.unusedVariables false

theorem hid {p : Prop} (h : p) : Hid p := h
theorem But.later {g : Nat} {a w w' : World} (h : But g a w) (k : Below w.heap.size w w') : But g a w' := h.trans (But.of k)
theorem takeB_nx (s : ByteArray) (S : Sa) : takeB s S = (((nxT S).1 == 2 || (nxT S).1 == 5) && eqS (nxT S).2.1 s) := by
  match S with
  | .inl x => rfl
  | .inr [] => rfl
  | .inr (t :: ts) => rfl

theorem takeB_true {s : ByteArray} {S : Sa} (h : takeB s S = true) : ∃ t ts, S = .inr (t :: ts) ∧ t.1 ≠ 6 ∧ takeS s S = .inr ts := by
  match S with
  | .inl x => simp [takeB] at h
  | .inr [] => simp [takeB, isTk] at h
  | .inr (t :: ts) =>
    have h' : isTk s (t :: ts) = true := h
    refine ⟨t, ts, rfl, (isTk_kd h').1, ?_⟩
    simp [takeS, h']
theorem takeB_false {s : ByteArray} {S : Sa} (h : takeB s S = false) : takeS s S = S := by
  match S with
  | .inl x => rfl
  | .inr ts =>
    have h' : isTk s ts = false := h
    simp [takeS, h']

end Go.Proofs.YtnboooaockgoiaaGreatDoor
namespace Go.Proofs.YtnboooaockgoiaaGreatDoor
open Go.RowKit
set_option linter.unusedVariables false

/-- The texts lie in block b, one behind the other. -/
def Sw (w : World) (b : Nat) (ls : List ByteArray) : Prop := ∀ i (h : i < ls.length), w.cell? ⟨b, i, none⟩ = some (.string ls[i])
theorem wantS_true {s : ByteArray} {S : Sa} (h : takeB s S = true) : wantS s S = takeS s S := by
  match S with
  | .inl x => rfl
  | .inr ts => have h' : isTk s ts = true := h; simp [wantS, takeS, h']
theorem wantS_false {s : ByteArray} {S : Sa} (h : takeB s S = false) : wantS s S = failS 5 S := by
  match S with
  | .inl x => rfl
  | .inr ts => have h' : isTk s ts = false := h; simp [wantS, failS, h']

/-- None of the first k choices stands there. -/
def NoneOf (l : List (ByteArray × Int)) (S : Sa) : Prop := ∀ c ∈ l, takeB c.1 S = false
theorem oneB_at {l : List (ByteArray × Int)} {S : Sa} {k : Nat} (hk : k < l.length) (hN : NoneOf (l.take k) S) (h : takeB l[k].1 S = true) : oneB l S = l[k].2 ∧ oneS l S = takeS l[k].1 S := by
  match S with
  | .inl x => simp [takeB] at h
  | .inr ts =>
    have h' : isTk l[k].1 ts = true := h
    have hN' : ∀ c ∈ l.take k, isTk c.1 ts = false := hN
    clear hN h
    refine ⟨?_, ?_⟩
    · induction l generalizing k with
      | nil => simp at hk
      | cons c l ih =>
        cases k with
        | zero => simp only [List.getElem_cons_zero] at h'; simp [oneB, oneOf, h']
        | succ k =>
          have hc := hN' c (by simp)
          simp only [List.getElem_cons_succ] at h' ⊢
          have := ih (k := k) (by simpa using hk) h' (fun x hx => hN' x (by simp [hx]))
          simp only [oneB, oneOf, hc] at this ⊢
          simpa using this
    · have : (l.any fun c => isTk c.1 ts) = true := List.any_eq_true.2 ⟨l[k], List.getElem_mem hk, h'⟩
      simp only [oneS, takeS, this, h', if_true]
theorem oneB_none {l : List (ByteArray × Int)} {S : Sa} (hN : NoneOf l S) : oneB l S = 0 ∧ oneS l S = S := by
  match S with
  | .inl x => exact ⟨rfl, rfl⟩
  | .inr ts =>
    have hN' : ∀ c ∈ l, isTk c.1 ts = false := hN
    refine ⟨?_, ?_⟩
    · clear hN
      induction l with
      | nil => rfl
      | cons c l ih =>
        have hc := hN' c (by simp)
        have := ih (fun x hx => hN' x (by simp [hx]))
        simp only [oneB, oneOf, hc] at this ⊢
        simpa using this
    · have : (l.any fun c => isTk c.1 ts) = false := by
        rw [List.any_eq_false]
        intro c hc
        rw [hN' c hc]; simp
      simp only [oneS, this, Bool.false_eq_true, if_false]
theorem NoneOf.step {l : List (ByteArray × Int)} {S : Sa} {k : Nat} (hk : k < l.length) (hN : NoneOf (l.take k) S) (h : takeB l[k].1 S = false) : NoneOf (l.take (k + 1)) S := by
  intro c hc
  rw [List.take_succ_eq_append_getElem hk, List.mem_append, List.mem_singleton] at hc
  rcases hc with hc | rfl
  · exact hN c hc
  · exact h

theorem fld_kind (a b c d : Value) (w : World) : (Instr.field 91 (.agg #[a, b, c, d]) 0).run Tryz.prog w = .ok a w := by kernel_rfl
end Go.Proofs.YtnboooaockgoiaaGreatDoor
