/- The walk of the reader's quoted. -/
import Derived.Test.YtjlmcnbmhgabpaaGreatL6
namespace Go.Proofs.YtjlmcnbmhgabpaaGreat
open Go.RowKit
set_option linter.unusedVariables false

/-- Bytes as numbers. -/
def lz (l : List UInt8) : List Int := l.map fun c => (c.toNat : Int)
theorem lz_len (l : List UInt8) : (lz l).length = l.length := List.length_map _
theorem lz_snoc (l : List UInt8) (c : UInt8) : lz (l ++ [c]) = lz l ++ [(c.toNat : Int)] := by simp [lz]
theorem lz_str (l : List UInt8) : strOfNums (lz l) = ⟨l.toArray⟩ := by
  have : ((lz l).map fun n => UInt8.ofNat n.toNat) = l := by
    rw [lz, List.map_map]
    conv => rhs; rw [← List.map_id l]
    apply List.map_congr_left
    intro x _
    simp
  rw [strOfNums, this]

theorem got39 {s : ByteArray} {k : Nat} (h : got (isB 39) s k = true) : ∃ hk : k < s.size, s[k].toNat = 39 := by
  have hk := got_lt h
  rw [got_at hk, isB, decide_eq_true_iff] at h
  exact ⟨hk, h⟩
theorem quo_nil : quo [] = ([], 0, false) := by rw [quo]
theorem quo_cons (x : UInt8) (l : List UInt8) (h1 : isB 39 x = false) : quo (x :: l) = if isT x then (x :: (quo l).1, (quo l).2.1 + 1, (quo l).2.2) else ([], 0, false) := by
  cases l with
  | nil =>
    simp only [quo, h1, Bool.false_eq_true, if_false]
  | cons y r => rw [quo, if_neg (by rw [h1]; simp)]
theorem quo_close {s : ByteArray} {k : Nat} (h : got (isB 39) s k = true) (h2 : got (isB 39) s (k + 1) = false) : quo ((bs s).drop k) = ([], 1, true) := by
  have hk := got_lt h
  rw [got_at hk] at h
  rw [drop_at hk]
  cases Nat.lt_or_ge (k + 1) s.size with
  | inl hk2 =>
    rw [got_at hk2] at h2
    rw [drop_at hk2, quo, if_pos h, if_neg (by rw [h2]; simp)]
  | inr hk2 => rw [List.drop_of_length_le (by rw [bs_length]; exact hk2), quo, if_pos h]
theorem quo_two {s : ByteArray} {k : Nat} (h : got (isB 39) s k = true) (hk : k + 1 < s.size) (h2 : got (isB 39) s (k + 1) = true) : quo ((bs s).drop k) = (s[k + 1] :: (quo ((bs s).drop (k + 1 + 1))).1, (quo ((bs s).drop (k + 1 + 1))).2.1 + 2, (quo ((bs s).drop (k + 1 + 1))).2.2) := by
  obtain ⟨k1, e1⟩ := got39 h
  obtain ⟨k2, e2⟩ := got39 h2
  have e : s[k] = s[k + 1] := UInt8.toNat_inj.1 (e1.trans e2.symm)
  rw [got_at k1] at h
  rw [got_at k2] at h2
  rw [drop_at k1, drop_at k2, quo, if_pos h, if_pos h2, e]
theorem quo_txt {s : ByteArray} {k : Nat} (hk : k < s.size) (h : got (isB 39) s k = false) (h2 : got isT s k = true) : quo ((bs s).drop k) = (s[k] :: (quo ((bs s).drop (k + 1))).1, (quo ((bs s).drop (k + 1))).2.1 + 1, (quo ((bs s).drop (k + 1))).2.2) := by
  rw [got_at hk] at h h2
  rw [drop_at hk, quo_cons _ _ h, if_pos h2]
theorem quo_bad {s : ByteArray} {k : Nat} (h : got (isB 39) s k = false) (h2 : got isT s k = false) : quo ((bs s).drop k) = ([], 0, false) := by
  cases Nat.lt_or_ge k s.size with
  | inl hk =>
    rw [got_at hk] at h h2
    rw [drop_at hk, quo_cons _ _ h, if_neg (by rw [h2]; simp)]
  | inr hk => rw [List.drop_of_length_le (by rw [bs_length]; exact hk), quo_nil]

/-- Up to k the letters l were read of the text value at j. -/
def Qv (s : ByteArray) (j k : Nat) (l : List UInt8) : Prop := (quo ((bs s).drop (j + 1))).1 = l ++ (quo ((bs s).drop k)).1 ∧ (quo ((bs s).drop (j + 1))).2.1 + (j + 1) = k + (quo ((bs s).drop k)).2.1 ∧ (quo ((bs s).drop (j + 1))).2.2 = (quo ((bs s).drop k)).2.2
theorem Qv.start (s : ByteArray) (j : Nat) : Qv s j (j + 1) [] := ⟨rfl, by omega, rfl⟩
theorem Qv.txt {s : ByteArray} {j k : Nat} {l : List UInt8} (q : Qv s j k l) (hk : k < s.size) (h : got (isB 39) s k = false) (h2 : got isT s k = true) : Qv s j (k + 1) (l ++ [s[k]]) := by
  obtain ⟨q1, q2, q3⟩ := q
  rw [quo_txt hk h h2] at q1 q2 q3
  exact ⟨by rw [q1]; simp, by rw [q2]; simp; omega, q3⟩
theorem Qv.two {s : ByteArray} {j k : Nat} {l : List UInt8} (q : Qv s j k l) (hk : k + 1 < s.size) (h : got (isB 39) s k = true) (h2 : got (isB 39) s (k + 1) = true) : Qv s j (k + 1 + 1) (l ++ [s[k + 1]]) := by
  obtain ⟨q1, q2, q3⟩ := q
  rw [quo_two h hk h2] at q1 q2 q3
  exact ⟨by rw [q1]; simp, by rw [q2]; simp; omega, q3⟩
theorem Qv.two' {s : ByteArray} {j k m : Nat} {l : List UInt8} (q : Qv s j k l) (hm : m = k + 1) (hk : m < s.size) (h : got (isB 39) s k = true) (h2 : got (isB 39) s m = true) : Qv s j (m + 1) (l ++ [s[m]]) := by
  subst hm
  exact q.two hk h h2
theorem Qv.close {s : ByteArray} {j k : Nat} {l : List UInt8} (q : Qv s j k l) (h : got (isB 39) s k = true) (h2 : got (isB 39) s (k + 1) = false) : quoW s j = if 30 < l.length then flt j 7 else wrd (4, ⟨l.toArray⟩, 0, j) (k + 1) := by
  obtain ⟨q1, q2, q3⟩ := q
  rw [quo_close h h2] at q1 q2 q3
  rw [List.append_nil] at q1
  have e : j + 1 + (quo ((bs s).drop (j + 1))).2.1 = k + 1 := by have : ((([], 1, true) : List UInt8 × Nat × Bool)).2.1 = 1 := rfl; omega
  rw [quoW, q3, if_pos rfl, q1, e]
theorem Qv.bad {s : ByteArray} {j k : Nat} {l : List UInt8} (q : Qv s j k l) (h : got (isB 39) s k = false) (h2 : got isT s k = false) : quoW s j = flt k 4 := by
  obtain ⟨q1, q2, q3⟩ := q
  rw [quo_bad h h2] at q1 q2 q3
  have e : j + 1 + (quo ((bs s).drop (j + 1))).2.1 = k := by have : ((([], 0, false) : List UInt8 × Nat × Bool)).2.1 = 0 := rfl; omega
  rw [quoW, q3, if_neg (by simp), e]

theorem Own.but {B g : Nat} {w w' : World} {v : Value} {l : List Int} (h : Own B w v l) (hb : But g w w') (hg : g < B) : Own B w' v l := by
  refine ⟨h.1, ?_⟩
  rcases h.2 with k | ⟨b, cap, cur, hv, hg', hh, r⟩
  · exact .inl k
  · exact .inr ⟨b, cap, cur, hv, hg', by rw [hb.block b (Array.getElem?_eq_some_iff.1 hh).1 (by omega)]; exact hh, r⟩
theorem But.upto {g B : Nat} {w w1 w2 : World} (h : But g w w1) (k : Below B w1 w2) (hB : w.heap.size ≤ B) : But g w w2 :=
  ⟨k.os.trans h.os, k.tape.trans h.tape, k.output.trans h.output, Nat.le_trans h.size k.size, fun i hi hg => (k.block i (by omega)).trans (h.block i hi hg)⟩
theorem Rr.below {B : Nat} {w w' : World} {g : Nat} {s : ByteArray} {k : Nat} (h : Rr w g s k) (hb : Below B w w') (hg : g < B) : Rr w' g s k := ⟨by rw [hb.block g hg]; exact h.row⟩
theorem Zr.below {B : Nat} {w w' : World} {r : Nat} (h : Zr w r) (hb : Below B w w') (hr : r < B) : Zr w' r := ⟨by rw [hb.block r hr]; exact h.row⟩
theorem step_appB {ops : Array Oper} {o : Oper} {a : Act} {w : World} {K : Act → World → Prop} {Q : Exit → Act → World → Prop} {E : Prop}
    (hgd : o.guard = none) (s x : Operand) (tx : TypeId) (ho : o.op = Op.call { callee := Callee.builtin Builtin.append, args := #[s, x], argTypes := #[35, tx] })
    (B : Nat) (v xv : Value) (l m : List Int) (hs : a.eval s = v) (hx : a.eval x = xv) (hown : Own B w v l) (hsrc : SrcB w tx xv m) (hlm : l.length + m.length ≤ 100000) (hB : B ≤ w.heap.size)
    (h : ∀ v' w', Own B w' v' (l ++ m) → Below B w w' → K (a.put o.dst v') w') :
    if Region.wanted o (yielded ops a.tmps) = true then Oper.wp Tryz.prog o a w K Q else E :=
  step_app hgd s x tx ho B v xv l m hs hx hown hsrc hlm hB fun v' w' h1 h2 _ => h v' w' h1 (hown.below hB h2)

/-- Bytes made a text. -/
theorem conv_all {w : World} {ao : Option Addr} {n c : Nat} {xs : List Int} (h : Rd .u8 w ao n c xs) : (convert 35 9 (.slice ao n c)).run Tryz.prog w = .ok (.string (strOfNums xs)) w := by
  by_cases hn : 0 < n
  · obtain ⟨b, o, rfl, hc⟩ := h.cells hn
    exact run_convert_bytes_arg w 35 5 Tryz.underlying35 Tryz.underlying5 b o n c xs h.len (fun i hi => by rw [hc i hi]; rfl) 9 Tryz.underlying9
  · obtain rfl : n = 0 := by omega
    obtain rfl : xs = [] := List.eq_nil_of_length_eq_zero h.len
    rcases ao with _ | a
    · exact run_convert_bytes_nil w 35 5 Tryz.underlying35 Tryz.underlying5 0 c 9 Tryz.underlying9
    · rw [run_convert_bytes_string w 35 9 5 _ 0 c Tryz.underlying35 Tryz.underlying5 Tryz.underlying9, run_bytesToString w a 0 c [] (by simp [loadCells, loadCellsFrom])]
      rfl

end Go.Proofs.YtjlmcnbmhgabpaaGreat
