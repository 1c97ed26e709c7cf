import Derived.Test.YtnboooaockgoiabMaa
import Derived.Shelf.LaysM
import Derived.Shelf.Strconv.Clone
import Derived.Deep.RegionHeld3
import Derived.Deep.Trees
/- internal/stringslite.Clone in this dump's numbers: the same bytes; the world behind it has a new block alone. Laid by the shelf's command in plain words: each field is a fact of the dump or the kernel's comparison; the contract is one application. -/
namespace Go.Proofs
open Go.Shelf
def Try.laysM316_ren : Go.Shelf.Ren := ⟨fun | 316 => 43 | n => n, fun | 9 => 9 | 3 => 3 | 4 => 4 | 37 => 27 | 0 => 0 | 127 => 107 | 5 => 5 | n => n, fun | n => n⟩
theorem Try.laysM316 : Go.Proofs.LaysM.n316 Try.prog Try.laysM316_ren := {
  mixed := by kernel_rfl
  f316 := Try.func43.trans (congrArg some (by kernel_rfl))
  t0 := Try.underlying0
  a0 := Try.isAgg0
  z0 := Try.sizeOf0
  v0 := Try.zeroValue0
  t3 := Try.underlying3
  a3 := Try.isAgg3
  z3 := Try.sizeOf3
  v3 := Try.zeroValue3
  t4 := Try.underlying4
  a4 := Try.isAgg4
  z4 := Try.sizeOf4
  v4 := Try.zeroValue4
  t9 := Try.underlying9
  a9 := Try.isAgg9
  z9 := Try.sizeOf9
  v9 := Try.zeroValue9
  t37 := Try.underlying27
  a37 := Try.isAgg27
  z37 := Try.sizeOf27
  v37 := Try.zeroValue27
  t127 := Try.underlying107
  a127 := Try.isAgg107
  z127 := Try.sizeOf107
  v127 := Try.zeroValue107
  t5 := Try.underlying5
  a5 := Try.isAgg5
  z5 := Try.sizeOf5
  v5 := Try.zeroValue5
  i0 := by kernel_rfl
  i3 := by kernel_rfl
  i4 := by kernel_rfl
  i5 := by kernel_rfl
  i9 := by kernel_rfl
  i37 := by kernel_rfl
  i127 := by kernel_rfl }
open Go.RowKit in
/-- internal/stringslite.Clone: the same bytes. -/
theorem Try.stringslite_Clone (s : ByteArray) (w : World) (hlim : s.size ≤ 281474976710656) :
    Calls Try.prog 43 #[.string s] w fun e w' => e = .returned (.string s) ∧ Below w.heap.size w w' := Any.stringslite_Clone Try.laysM316 s w hlim
end Go.Proofs
/- The walks of lex's noName, since, and of the document's Word. -/
namespace Go.Proofs.Ytnboooaockgoiab
open Go.RowKit
set_option linter.unusedVariables false

/-- A step on. -/
theorem Below.on {a w w' : World} (h : Below a.heap.size a w) (k : Below w.heap.size w w') : Below a.heap.size a w' := h.trans (k.mono h.size)
/-- Are two texts the same? -/
def eqS (s t : ByteArray) : Bool := decide (s = t)
theorem same_str (s t : ByteArray) : (s.toList == t.toList) = decide (s = t) := by
  rw [Bool.eq_iff_iff]
  simp only [beq_iff_eq, decide_eq_true_eq]
  constructor
  · intro h
    rw [ByteArray.toList_eq, ByteArray.toList_eq] at h
    exact ByteArray.ext (Array.toList_inj.1 h)
  · intro h; rw [h]
theorem run_eqS (s t : ByteArray) (w : World) : (binOp .eql 9 (.string s) (.string t)).run Try.prog w = .ok (.bool (eqS s t)) w := by
  have h := same_str s t
  rw [eqS]
  generalize decide (s = t) = B at *
  go_simp

/-- The words' letters. -/
def wls : List (List UInt8) := [[97, 110, 100], [97, 115], [98, 101, 103, 105, 110], [98, 121], [99, 97, 108, 108], [99, 108, 111, 115, 117, 114, 101], [99, 111, 109, 109, 105, 116], [99, 111, 117, 110, 116], [99, 114, 101, 97, 116, 101], [100, 101, 108, 101, 116, 101], [100, 101, 115, 99], [102, 114, 111, 109], [103, 114, 111, 117, 112], [105, 110, 100, 101, 120], [105, 110, 115, 101, 114, 116], [105, 110, 116], [105, 110, 116, 111], [106, 111, 105, 110], [109, 97, 120], [109, 105, 110], [110, 111, 116], [111, 110], [111, 114], [111, 114, 100, 101, 114], [114, 97, 105, 115, 101], [114, 101, 102], [114, 111, 108, 108, 98, 97, 99, 107], [115, 101, 108, 101, 99, 116], [115, 101, 116], [115, 116, 114, 105, 112], [115, 117, 109], [116, 97, 98, 108, 101], [116, 101, 120, 116], [117, 112, 100, 97, 116, 101], [118, 97, 108, 117, 101, 115], [118, 105, 101, 119], [119, 104, 101, 114, 101]]
theorem wl_wls : wl = wls.map fun l => ⟨l.toArray⟩ := by decide

end Go.Proofs.Ytnboooaockgoiab
/- The walks of lex's since, and of the document's Word. -/
namespace Go.Proofs.Ytnboooaockgoiab
open Go.RowKit
set_option linter.unusedVariables false

theorem clone_any (s : ByteArray) (hs : s.size ≤ 500) (w : World) : Calls Try.prog 24 #[.string s] w fun e w' => e = .returned (.string s) ∧ Below w.heap.size w w' := by
  have H : Hid _ := Try.stringslite_Clone s w (by omega)
  go_enter Try.func24, Try.ntmps24
  go_wp2_with fail
  refine Calls.mono H.out ?_
  rintro e w1 ⟨rfl, hb⟩
  clear H
  go_wp2
  go_ret
  exact ⟨rfl, hb⟩

theorem extract_size (s : ByteArray) (a b : Nat) : (s.extract a b).size ≤ s.size := by rw [ByteArray.size_extract]; omega
theorem cell_new (w : World) (arr : Array Value) (e : TypeId) (mk : Nat × Nat) (j : Nat) : (w.alloc (.cells arr e mk)).cell? ⟨w.heap.size, j, none⟩ = arr[j]? := by
  have : (w.alloc (.cells arr e mk)).heap[w.heap.size]? = some (.cells arr e mk) := heap_alloc_new w _
  unfold World.cell?
  rw [this]
  rfl
theorem any_take {l : List ByteArray} {k : Nat} {s d : ByteArray} (hk : k < l.length) (h : (l.take k).any (fun t => decide (t = s)) = false) (hx : decide (l.getD k d = s) = false) : (l.take (k + 1)).any (fun t => decide (t = s)) = false := by
  rw [List.take_add_one, List.any_append, h, List.getElem?_eq_getElem hk]
  rw [List.getD, List.getElem?_eq_getElem hk] at hx
  simpa using hx
theorem any_hit {l : List ByteArray} {k : Nat} {s d : ByteArray} (hk : k < l.length) (hx : decide (l.getD k d = s) = true) : (l.any fun t => decide (t = s)) = true := by
  rw [List.getD, List.getElem?_eq_getElem hk] at hx
  exact List.any_eq_true.2 ⟨_, List.getElem_mem hk, hx⟩

end Go.Proofs.Ytnboooaockgoiab
/- The walks of the reader's name and sign. -/
namespace Go.Proofs.Ytnboooaockgoiab
open Go.RowKit
set_option linter.unusedVariables false

/-- What is told of a word, as the program tells it. -/
def tkA (t : Tk) : Value := .agg #[.int .i64 t.1, .string t.2.1, .int .i64 t.2.2.1, .int .i64 t.2.2.2]
def wrA (r : Wr) : Value := .tuple #[tkA r.tk, .int .i64 r.pl, .int .i64 r.er]

theorem But.new {g : Nat} {w w' : World} (h : But g w w') {r : Nat} (hr : w.heap.size ≤ r) (o : Nat) (v : Value) : But g w (w'.setCell ⟨r, o, none⟩ v) :=
  ⟨h.os, h.tape, h.output, by simp [World.setCell]; exact h.size, fun k hk hg => (Below.heap_setCell _ _ _ _ (by show k ≠ r; omega)).trans (h.block k hk hg)⟩
theorem But.new4 {g : Nat} {w w' : World} (h : But g w w') {r : Nat} (hr : w.heap.size ≤ r) (a b c d : Value) : But g w ((((w'.setCell ⟨r, 0, none⟩ a).setCell ⟨r, 1, none⟩ b).setCell ⟨r, 2, none⟩ c).setCell ⟨r, 3, none⟩ d) :=
  (((h.new hr 0 a).new hr 1 b).new hr 2 c).new hr 3 d
theorem But.alloc {g : Nat} {w w' : World} (h : But g w w') (o : Obj) : But g w (w'.alloc o) :=
  h.trans (But.of ((Below.refl _ _).alloc (Nat.le_refl _) o))
theorem But.behind {g : Nat} {w w' : World} {o : Obj} (h : But g (w.alloc o) w') : But g w w' := ((But.refl g w).alloc o).trans h
end Go.Proofs.Ytnboooaockgoiab
/- The walks of the reader's number and closed. -/
namespace Go.Proofs.Ytnboooaockgoiab
open Go.RowKit
set_option linter.unusedVariables false

theorem bs_extract (s : ByteArray) (a b : Nat) : bs (s.extract a b) = ((bs s).drop a).take (b - a) := by
  rw [bs, bs, ByteArray.data_extract, Array.toList_extract, List.extract_eq_take_drop]
theorem bs_till (p : UInt8 → Bool) (s : ByteArray) (j : Nat) : bs (s.extract j (till p s j)) = ((bs s).drop j).takeWhile p := by
  rw [bs_extract, till, Nat.add_sub_cancel_left]
  exact (List.prefix_iff_eq_take.1 (List.takeWhile_prefix p)).symm
theorem all_till (p : UInt8 → Bool) (s : ByteArray) (j : Nat) : (bs (s.extract j (till p s j))).all p = true := by
  rw [bs_till]
  exact List.all_takeWhile
theorem pA_till {s : ByteArray} {j : Nat} (h : got isDig s j = true) : pA (bs (s.extract j (till isDig s j))) = nA (numV s j (till isDig s j)) := by
  have h1 := all_till isDig s j
  have h2 := till_lt h
  have h3 := till_le (p := isDig) (Nat.le_of_lt (got_lt h))
  have hl : 0 < (bs (s.extract j (till isDig s j))).length := by rw [bs_length, ByteArray.size_extract]; omega
  rw [pA, isNum, h1, Bool.and_true, decide_eq_true hl, if_pos rfl, numV]

end Go.Proofs.Ytnboooaockgoiab
/- The walk of the reader's quoted. -/
namespace Go.Proofs.Ytnboooaockgoiab
open Go.RowKit
set_option linter.unusedVariables false

/-- Bytes as numbers. -/
def lz (l : List UInt8) : List Int := l.map fun c => (c.toNat : Int)
theorem lz_len (l : List UInt8) : (lz l).length = l.length := List.length_map _
theorem lz_snoc (l : List UInt8) (c : UInt8) : lz (l ++ [c]) = lz l ++ [(c.toNat : Int)] := by simp [lz]
theorem lz_str (l : List UInt8) : strOfNums (lz l) = ⟨l.toArray⟩ := by
  have : ((lz l).map fun n => UInt8.ofNat n.toNat) = l := by
    rw [lz, List.map_map]
    conv => rhs; rw [← List.map_id l]
    apply List.map_congr_left
    intro x _
    simp
  rw [strOfNums, this]

theorem got39 {s : ByteArray} {k : Nat} (h : got (isB 39) s k = true) : ∃ hk : k < s.size, s[k].toNat = 39 := by
  have hk := got_lt h
  rw [got_at hk, isB, decide_eq_true_iff] at h
  exact ⟨hk, h⟩
theorem quo_nil : quo [] = ([], 0, false) := by rw [quo]
theorem quo_cons (x : UInt8) (l : List UInt8) (h1 : isB 39 x = false) : quo (x :: l) = if isT x then (x :: (quo l).1, (quo l).2.1 + 1, (quo l).2.2) else ([], 0, false) := by
  cases l with
  | nil =>
    simp only [quo, h1, Bool.false_eq_true, if_false]
  | cons y r => rw [quo, if_neg (by rw [h1]; simp)]
theorem quo_close {s : ByteArray} {k : Nat} (h : got (isB 39) s k = true) (h2 : got (isB 39) s (k + 1) = false) : quo ((bs s).drop k) = ([], 1, true) := by
  have hk := got_lt h
  rw [got_at hk] at h
  rw [drop_at hk]
  cases Nat.lt_or_ge (k + 1) s.size with
  | inl hk2 =>
    rw [got_at hk2] at h2
    rw [drop_at hk2, quo, if_pos h, if_neg (by rw [h2]; simp)]
  | inr hk2 => rw [List.drop_of_length_le (by rw [bs_length]; exact hk2), quo, if_pos h]
theorem quo_two {s : ByteArray} {k : Nat} (h : got (isB 39) s k = true) (hk : k + 1 < s.size) (h2 : got (isB 39) s (k + 1) = true) : quo ((bs s).drop k) = (s[k + 1] :: (quo ((bs s).drop (k + 1 + 1))).1, (quo ((bs s).drop (k + 1 + 1))).2.1 + 2, (quo ((bs s).drop (k + 1 + 1))).2.2) := by
  obtain ⟨k1, e1⟩ := got39 h
  obtain ⟨k2, e2⟩ := got39 h2
  have e : s[k] = s[k + 1] := UInt8.toNat_inj.1 (e1.trans e2.symm)
  rw [got_at k1] at h
  rw [got_at k2] at h2
  rw [drop_at k1, drop_at k2, quo, if_pos h, if_pos h2, e]
theorem quo_txt {s : ByteArray} {k : Nat} (hk : k < s.size) (h : got (isB 39) s k = false) (h2 : got isT s k = true) : quo ((bs s).drop k) = (s[k] :: (quo ((bs s).drop (k + 1))).1, (quo ((bs s).drop (k + 1))).2.1 + 1, (quo ((bs s).drop (k + 1))).2.2) := by
  rw [got_at hk] at h h2
  rw [drop_at hk, quo_cons _ _ h, if_pos h2]
theorem quo_bad {s : ByteArray} {k : Nat} (h : got (isB 39) s k = false) (h2 : got isT s k = false) : quo ((bs s).drop k) = ([], 0, false) := by
  cases Nat.lt_or_ge k s.size with
  | inl hk =>
    rw [got_at hk] at h h2
    rw [drop_at hk, quo_cons _ _ h, if_neg (by rw [h2]; simp)]
  | inr hk => rw [List.drop_of_length_le (by rw [bs_length]; exact hk), quo_nil]

/-- Up to k the letters l were read of the text value at j. -/
def Qv (s : ByteArray) (j k : Nat) (l : List UInt8) : Prop := (quo ((bs s).drop (j + 1))).1 = l ++ (quo ((bs s).drop k)).1 ∧ (quo ((bs s).drop (j + 1))).2.1 + (j + 1) = k + (quo ((bs s).drop k)).2.1 ∧ (quo ((bs s).drop (j + 1))).2.2 = (quo ((bs s).drop k)).2.2
theorem Qv.start (s : ByteArray) (j : Nat) : Qv s j (j + 1) [] := ⟨rfl, by omega, rfl⟩
theorem Qv.txt {s : ByteArray} {j k : Nat} {l : List UInt8} (q : Qv s j k l) (hk : k < s.size) (h : got (isB 39) s k = false) (h2 : got isT s k = true) : Qv s j (k + 1) (l ++ [s[k]]) := by
  obtain ⟨q1, q2, q3⟩ := q
  rw [quo_txt hk h h2] at q1 q2 q3
  exact ⟨by rw [q1]; simp, by rw [q2]; simp; omega, q3⟩
theorem Qv.two {s : ByteArray} {j k : Nat} {l : List UInt8} (q : Qv s j k l) (hk : k + 1 < s.size) (h : got (isB 39) s k = true) (h2 : got (isB 39) s (k + 1) = true) : Qv s j (k + 1 + 1) (l ++ [s[k + 1]]) := by
  obtain ⟨q1, q2, q3⟩ := q
  rw [quo_two h hk h2] at q1 q2 q3
  exact ⟨by rw [q1]; simp, by rw [q2]; simp; omega, q3⟩
theorem Qv.two' {s : ByteArray} {j k m : Nat} {l : List UInt8} (q : Qv s j k l) (hm : m = k + 1) (hk : m < s.size) (h : got (isB 39) s k = true) (h2 : got (isB 39) s m = true) : Qv s j (m + 1) (l ++ [s[m]]) := by
  subst hm
  exact q.two hk h h2
theorem Qv.close {s : ByteArray} {j k : Nat} {l : List UInt8} (q : Qv s j k l) (h : got (isB 39) s k = true) (h2 : got (isB 39) s (k + 1) = false) : quoW s j = if 30 < l.length then flt j 7 else wrd (4, ⟨l.toArray⟩, 0, j) (k + 1) := by
  obtain ⟨q1, q2, q3⟩ := q
  rw [quo_close h h2] at q1 q2 q3
  rw [List.append_nil] at q1
  have e : j + 1 + (quo ((bs s).drop (j + 1))).2.1 = k + 1 := by have : ((([], 1, true) : List UInt8 × Nat × Bool)).2.1 = 1 := rfl; omega
  rw [quoW, q3, if_pos rfl, q1, e]
theorem Qv.bad {s : ByteArray} {j k : Nat} {l : List UInt8} (q : Qv s j k l) (h : got (isB 39) s k = false) (h2 : got isT s k = false) : quoW s j = flt k 4 := by
  obtain ⟨q1, q2, q3⟩ := q
  rw [quo_bad h h2] at q1 q2 q3
  have e : j + 1 + (quo ((bs s).drop (j + 1))).2.1 = k := by have : ((([], 0, false) : List UInt8 × Nat × Bool)).2.1 = 0 := rfl; omega
  rw [quoW, q3, if_neg (by simp), e]

theorem Own.but {B g : Nat} {w w' : World} {v : Value} {l : List Int} (h : Own B w v l) (hb : But g w w') (hg : g < B) : Own B w' v l := by
  refine ⟨h.1, ?_⟩
  rcases h.2 with k | ⟨b, cap, cur, hv, hg', hh, r⟩
  · exact .inl k
  · exact .inr ⟨b, cap, cur, hv, hg', by rw [hb.block b (Array.getElem?_eq_some_iff.1 hh).1 (by omega)]; exact hh, r⟩
theorem But.upto {g B : Nat} {w w1 w2 : World} (h : But g w w1) (k : Below B w1 w2) (hB : w.heap.size ≤ B) : But g w w2 :=
  ⟨k.os.trans h.os, k.tape.trans h.tape, k.output.trans h.output, Nat.le_trans h.size k.size, fun i hi hg => (k.block i (by omega)).trans (h.block i hi hg)⟩
theorem step_appB {ops : Array Oper} {o : Oper} {a : Act} {w : World} {K : Act → World → Prop} {Q : Exit → Act → World → Prop} {E : Prop}
    (hgd : o.guard = none) (s x : Operand) (tx : TypeId) (ho : o.op = Op.call { callee := Callee.builtin Builtin.append, args := #[s, x], argTypes := #[27, tx] })
    (B : Nat) (v xv : Value) (l m : List Int) (hs : a.eval s = v) (hx : a.eval x = xv) (hown : Own B w v l) (hsrc : SrcB w tx xv m) (hlm : l.length + m.length ≤ 100000) (hB : B ≤ w.heap.size)
    (h : ∀ v' w', Own B w' v' (l ++ m) → Below B w w' → K (a.put o.dst v') w') :
    if Region.wanted o (yielded ops a.tmps) = true then Oper.wp Try.prog o a w K Q else E :=
  step_app hgd s x tx ho B v xv l m hs hx hown hsrc hlm hB fun v' w' h1 h2 _ => h v' w' h1 (hown.below hB h2)

/-- Bytes made a text. -/
theorem conv_all {w : World} {ao : Option Addr} {n c : Nat} {xs : List Int} (h : Rd .u8 w ao n c xs) : (convert 27 9 (.slice ao n c)).run Try.prog w = .ok (.string (strOfNums xs)) w := by
  by_cases hn : 0 < n
  · obtain ⟨b, o, rfl, hc⟩ := h.cells hn
    exact run_convert_bytes_arg w 27 5 Try.underlying27 Try.underlying5 b o n c xs h.len (fun i hi => by rw [hc i hi]; rfl) 9 Try.underlying9
  · obtain rfl : n = 0 := by omega
    obtain rfl : xs = [] := List.eq_nil_of_length_eq_zero h.len
    rcases ao with _ | a
    · exact run_convert_bytes_nil w 27 5 Try.underlying27 Try.underlying5 0 c 9 Try.underlying9
    · rw [run_convert_bytes_string w 27 9 5 _ 0 c Try.underlying27 Try.underlying5 Try.underlying9, run_bytesToString w a 0 c [] (by simp [loadCells, loadCellsFrom])]
      rfl

end Go.Proofs.Ytnboooaockgoiab
/- The walk of the reader's quoted. -/
namespace Go.Proofs.Ytnboooaockgoiab
open Go.RowKit
set_option linter.unusedVariables false

end Go.Proofs.Ytnboooaockgoiab
/- The walk of the reader's word. -/
namespace Go.Proofs.Ytnboooaockgoiab
open Go.RowKit
set_option linter.unusedVariables false

theorem oneW_name {s : ByteArray} {j : Nat} (h : got isL s j = true) : oneW s j = nameW s j := by rw [oneW, if_pos h]
theorem oneW_num {s : ByteArray} {j : Nat} (h : got isL s j = false) (h2 : got isDig s j = true) : oneW s j = numW s j := by rw [oneW, if_neg (by rw [h]; simp), if_pos h2]
theorem oneW_quo {s : ByteArray} {j : Nat} (h : got isL s j = false) (h2 : got isDig s j = false) (h3 : got (isB 39) s j = true) : oneW s j = quoW s j := by rw [oneW, if_neg (by rw [h]; simp), if_neg (by rw [h2]; simp), if_pos h3]
theorem oneW_sgn {s : ByteArray} {j : Nat} (h : got isL s j = false) (h2 : got isDig s j = false) (h3 : got (isB 39) s j = false) : oneW s j = sgnW s j := by rw [oneW, if_neg (by rw [h]; simp), if_neg (by rw [h2]; simp), if_neg (by rw [h3]; simp)]

end Go.Proofs.Ytnboooaockgoiab
/- Rows of words in memory: those that may be read, and those of the call's own that grow. -/
namespace Go.Proofs.Ytnboooaockgoiab
open Go.RowKit
set_option linter.unusedVariables false

/-- The word at place i. -/
def tth (l : List Tk) (i : Nat) : Tk := l[i]?.getD (0, ⟨#[]⟩, 0, 0)
theorem tth_at {l : List Tk} {i : Nat} (h : i < l.length) : tth l i = l[i] := by rw [tth, List.getElem?_eq_getElem h]; rfl
theorem tth_mem {l : List Tk} {i : Nat} (h : i < l.length) : tth l i ∈ l := by rw [tth_at h]; exact List.getElem_mem h
/-- The four cells of a word from o on in block b. -/
def Ct (w : World) (b o : Nat) (t : Tk) : Prop := w.cell? ⟨b, o, none⟩ = some (.int .i64 t.1) ∧ w.cell? ⟨b, o + 1, none⟩ = some (.string t.2.1) ∧ w.cell? ⟨b, o + 2, none⟩ = some (.int .i64 t.2.2.1) ∧ w.cell? ⟨b, o + 3, none⟩ = some (.int .i64 t.2.2.2)
theorem Ct.later {w w' : World} {b o : Nat} {t : Tk} (h : Ct w b o t) (hb : Below w.heap.size w w') : Ct w' b o t := ⟨cell_later hb h.1, cell_later hb h.2.1, cell_later hb h.2.2.1, cell_later hb h.2.2.2⟩
/-- The slice value '.slice ao n c' reads, in w, as the n words ts. -/
structure RdT (w : World) (ao : Option Addr) (n c : Nat) (ts : List Tk) : Prop where
  len : ts.length = n
  cap : n ≤ c
  max : c ≤ 9223372036854775807
  non : ao = none → c = 0
  cells : 0 < n → ∃ b o, ao = some ⟨b, o, none⟩ ∧ ∀ i, i < n → Ct w b (o + i * 4) (tth ts i)
theorem RdT.nil (w : World) : RdT w none 0 0 [] := ⟨rfl, Nat.le_refl _, by omega, fun _ => rfl, fun h => absurd h (Nat.lt_irrefl _)⟩
theorem RdT.later {w w' : World} {ao : Option Addr} {n c : Nat} {ts : List Tk} (h : RdT w ao n c ts) (hb : Below w.heap.size w w') : RdT w' ao n c ts :=
  ⟨h.len, h.cap, h.max, h.non, fun hn => by
    obtain ⟨b, o, ha, hc⟩ := h.cells hn
    exact ⟨b, o, ha, fun i hi => (hc i hi).later hb⟩⟩

/-- The cells of a word. -/
def cellsT (t : Tk) : List Value := [.int .i64 t.1, .string t.2.1, .int .i64 t.2.2.1, .int .i64 t.2.2.2]
theorem cells_at : ∀ {l : List Tk} {i : Nat}, i < l.length → (l.flatMap cellsT)[i * 4]? = some (.int .i64 (tth l i).1) ∧ (l.flatMap cellsT)[i * 4 + 1]? = some (.string (tth l i).2.1) ∧ (l.flatMap cellsT)[i * 4 + 2]? = some (.int .i64 (tth l i).2.2.1) ∧ (l.flatMap cellsT)[i * 4 + 3]? = some (.int .i64 (tth l i).2.2.2)
  | [], i, h => by simp at h
  | v :: l, 0, h => ⟨rfl, rfl, rfl, rfl⟩
  | v :: l, i + 1, h => by
    have ih := cells_at (l := l) (i := i) (by simpa using h)
    have e : tth (v :: l) (i + 1) = tth l i := by simp [tth]
    have el : (cellsT v).length = 4 := rfl
    rw [e, List.flatMap_cons, show (i + 1) * 4 = i * 4 + 4 from by omega]
    refine ⟨?_, ?_, ?_, ?_⟩
    · rw [List.getElem?_append_right (by rw [el]; omega), show i * 4 + 4 - (cellsT v).length = i * 4 from by rw [el]; omega]; exact ih.1
    · rw [List.getElem?_append_right (by rw [el]; omega), show i * 4 + 4 + 1 - (cellsT v).length = i * 4 + 1 from by rw [el]; omega]; exact ih.2.1
    · rw [List.getElem?_append_right (by rw [el]; omega), show i * 4 + 4 + 2 - (cellsT v).length = i * 4 + 2 from by rw [el]; omega]; exact ih.2.2.1
    · rw [List.getElem?_append_right (by rw [el]; omega), show i * 4 + 4 + 3 - (cellsT v).length = i * 4 + 3 from by rw [el]; omega]; exact ih.2.2.2
theorem Ct.news {w : World} {g : Nat} {v : Tk} (h : Ct w g 0 v) : ∀ (j : Nat) (u : Value), (cellsT v)[j]? = some u → w.cell? ((⟨g, 0, none⟩ : Addr).add j) = some u := by
  intro j u hj
  match j, hj with
  | 0, hj => simp [cellsT] at hj; subst hj; simpa [Addr.add] using h.1
  | 1, hj => simp [cellsT] at hj; subst hj; simpa [Addr.add] using h.2.1
  | 2, hj => simp [cellsT] at hj; subst hj; simpa [Addr.add] using h.2.2.1
  | 3, hj => simp [cellsT] at hj; subst hj; simpa [Addr.add] using h.2.2.2
  | j + 4, hj => simp [cellsT] at hj
theorem Ct.new (w : World) (v : Tk) (e : TypeId) : Ct (w.alloc (.cells #[.int .i64 v.1, .string v.2.1, .int .i64 v.2.2.1, .int .i64 v.2.2.2] e)) w.heap.size 0 v :=
  ⟨cell_new w _ e (0, 0) 0, cell_new w _ e (0, 0) 1, cell_new w _ e (0, 0) 2, cell_new w _ e (0, 0) 3⟩

end Go.Proofs.Ytnboooaockgoiab
/- The walk of lex.Lex. -/
namespace Go.Proofs.Ytnboooaockgoiab
open Go.RowKit
set_option linter.unusedVariables false

theorem Lx.zero {s : ByteArray} {k : Nat} {l : List Tk} {a e : Int} (h : Lx s k l a e) (he : e = 0) : a = 0 := by
  rcases h.step with ⟨h1, _, _, rfl⟩ | ⟨_, _, _, rfl, _⟩ | ⟨_, _, _, _, rfl, _⟩ | ⟨_, _, _, h4, _⟩
  · exact absurd he h1
  · rfl
  · rfl
  · exact absurd he h4
theorem Lx.none {s : ByteArray} {k : Nat} {l : List Tk} {a e : Int} (h : Lx s k l a e) (he : e ≠ 0) : l = [] := by
  rcases h.step with ⟨_, rfl, _⟩ | ⟨_, _, _, _, rfl⟩ | ⟨_, _, _, _, _, rfl, _⟩ | ⟨_, _, rfl, _⟩
  · rfl
  · exact absurd rfl he
  · exact absurd rfl he
  · rfl

/-- Up to k the words l were read. -/
def Up (s : ByteArray) (k : Nat) (l : List Tk) : Prop := ∀ ts a e, Lx s k ts a e → (e = 0 → Lx s 0 (l ++ ts) a e) ∧ (e ≠ 0 → Lx s 0 [] a e)
theorem Up.start (s : ByteArray) : Up s 0 [] := fun ts a e h => ⟨fun _ => h, fun he => by rw [h.none he] at h; exact h⟩
theorem Up.more {s : ByteArray} {k : Nat} {l : List Tk} (u : Up s k l) (h1 : (wordW s k).er = 0) (h2 : (wordW s k).tk.1 ≠ 6) : Up s (wordW s k).nx (l ++ [(wordW s k).tk]) := by
  intro ts a e h
  refine ⟨fun he => ?_, fun he => ?_⟩
  · subst he
    obtain rfl := h.zero rfl
    have := (u _ _ _ (Lx.more k ts h1 h2 h)).1 rfl
    simpa using this
  · obtain rfl := h.none he
    exact (u _ _ _ (Lx.far k a e h1 h2 h he)).2 he
theorem Up.fin {s : ByteArray} {k : Nat} {l : List Tk} (u : Up s k l) (h1 : (wordW s k).er = 0) (h2 : (wordW s k).tk.1 = 6) : Lx s 0 (l ++ [(wordW s k).tk]) 0 0 := (u _ _ _ (Lx.fin k h1 h2)).1 rfl
theorem Up.bad {s : ByteArray} {k : Nat} {l : List Tk} (u : Up s k l) (h1 : (wordW s k).er ≠ 0) : Lx s 0 [] (wordW s k).pl (wordW s k).er := (u _ _ _ (Lx.bad k h1)).2 h1

end Go.Proofs.Ytnboooaockgoiab
/- What Lex tells of given texts; the walk of begun. -/
namespace Go.Proofs.Ytnboooaockgoiab
open Go.RowKit
set_option linter.unusedVariables false

/-- What is told, reckoned. -/
def lxF : Nat → ByteArray → Nat → List Tk × Int × Int
  | 0, _, _ => ([], 0, 99)
  | n + 1, s, k =>
    if (wordW s k).er ≠ 0 then ([], (wordW s k).pl, (wordW s k).er)
    else if (wordW s k).tk.1 = 6 then ([(wordW s k).tk], 0, 0)
    else if (lxF n s (wordW s k).nx).2.2 = 0 then ((wordW s k).tk :: (lxF n s (wordW s k).nx).1, 0, 0)
    else ([], (lxF n s (wordW s k).nx).2.1, (lxF n s (wordW s k).nx).2.2)
theorem lxF_ok {s : ByteArray} : ∀ (n k : Nat) (l : List Tk) (a e : Int), lxF n s k = (l, a, e) → e ≠ 99 → Lx s k l a e := by
  intro n
  induction n with
  | zero => intro k l a e h he; rw [lxF] at h; cases h; exact absurd rfl he
  | succ n ih =>
    intro k l a e h he
    rw [lxF] at h
    split at h
    · rename_i h1
      cases h
      exact Lx.bad k h1
    · rename_i h1
      have h1' : (wordW s k).er = 0 := Decidable.not_not.1 h1
      split at h
      · rename_i h2
        cases h
        exact Lx.fin k h1' h2
      · rename_i h2
        generalize hr : lxF n s (wordW s k).nx = r at h
        obtain ⟨l', a', e'⟩ := r
        split at h
        · rename_i h3
          have h3' : e' = 0 := h3
          subst h3'
          cases h
          have := ih _ _ _ _ hr (by omega)
          obtain rfl := this.zero rfl
          exact Lx.more k l' h1' h2 this
        · rename_i h3
          have h3' : e' ≠ 0 := h3
          cases h
          have := ih _ _ _ _ hr he
          obtain rfl := this.none h3'
          exact Lx.far k _ _ h1' h2 this h3'
theorem lexR_of {s : ByteArray} {l : List Tk} {a e : Int} (n : Nat) (hs : s.size ≤ 400) (h : lxF n s 0 = (l, a, e)) (he : e ≠ 99) : LexR s l a e := .inr ⟨hs, lxF_ok n 0 l a e h he⟩
theorem lex_a1 : LexR ⟨#[97, 60, 61, 49]⟩ [(1, ⟨#[97]⟩, 0, 0), (5, ⟨#[60, 61]⟩, 0, 1), (3, ⟨#[]⟩, 1, 3), (6, ⟨#[]⟩, 0, 4)] 0 0 := lexR_of 5 (by decide) (by decide +kernel) (by decide)
theorem lex_1a : LexR ⟨#[49, 97]⟩ [] 1 4 := lexR_of 5 (by decide) (by decide +kernel) (by decide)

end Go.Proofs.Ytnboooaockgoiab
/- The grammar as plain functions over words: what the walks of parse and of the document's own are held against. -/
namespace Go.Proofs.Ytnboooaockgoiab
open Go.RowKit
set_option linter.unusedVariables false

/-- What a node of an expression has besides its number: Value (Kind, Int, Text), Table, Name. -/
abbrev Pay := Int × Int × ByteArray × ByteArray × ByteArray
/-- An expression: '.node 0 number payload left right'. -/
abbrev Tr := Go.Deep.BT Pay
def nilP : Pay := (0, 0, ⟨#[]⟩, ⟨#[]⟩, ⟨#[]⟩)
def tInt (n : Int) : Tr := .node 0 1 (1, n, ⟨#[]⟩, ⟨#[]⟩, ⟨#[]⟩) .nil .nil
def tText (s : ByteArray) : Tr := .node 0 1 (2, 0, s, ⟨#[]⟩, ⟨#[]⟩) .nil .nil
def tCol (t n : ByteArray) : Tr := .node 0 2 (0, 0, ⟨#[]⟩, t, n) .nil .nil
def tOne (op : Nat) (x : Tr) : Tr := .node 0 op nilP x .nil
def tTwo (op : Nat) (x y : Tr) : Tr := .node 0 op nilP x y

/-- A fault's place and the fault; or what was read, and the words behind it. -/
abbrev Re (α : Type) := Sum (Int × Int) (α × List Tk)
/-- A fault's place and the fault; or the words that are yet to be read. -/
abbrev Sa := Sum (Int × Int) (List Tk)
def stO {α : Type} : Re α → Sa
  | .inl x => .inl x
  | .inr x => .inr x.2
def runP {α : Type} (P : List Tk → Re α) : Sa → Re α
  | .inl x => .inl x
  | .inr ts => P ts
def thenR {α β : Type} (x : Re α) (f : α → List Tk → Re β) : Re β :=
  match x with
  | .inl e => .inl e
  | .inr y => f y.1 y.2
/-- How much is yet to be read. -/
def szS : Sa → Nat
  | .inl _ => 0
  | .inr ts => ts.length

/-- The last word is the end. -/
def Ended : List Tk → Prop
  | [] => False
  | t :: r => t.1 = 6 ∨ Ended r

/-- Is the first word this one of the grammar's? -/
def isTk (s : ByteArray) : List Tk → Bool
  | [] => false
  | t :: _ => (decide (t.1 = 2) || decide (t.1 = 5)) && decide (t.2.1 = s)
def atOf : List Tk → Int
  | [] => 0
  | t :: _ => t.2.2.2
def kdOf : List Tk → Int
  | [] => 0
  | t :: _ => t.1
def failS (e : Int) : Sa → Sa
  | .inl x => .inl x
  | .inr ts => .inl (atOf ts, e)
def takeB (s : ByteArray) : Sa → Bool
  | .inl _ => false
  | .inr ts => isTk s ts
def takeS (s : ByteArray) : Sa → Sa
  | .inl x => .inl x
  | .inr ts => if isTk s ts then .inr ts.tail else .inr ts
def wantS (s : ByteArray) : Sa → Sa
  | .inl x => .inl x
  | .inr ts => if isTk s ts then .inr ts.tail else .inl (atOf ts, 5)
def endS : Sa → Sa
  | .inl x => .inl x
  | .inr ts => if kdOf ts = 6 then .inr ts else .inl (atOf ts, 5)
/-- What the first word means among these; 0: it is none of them. -/
def oneOf : List (ByteArray × Int) → List Tk → Int
  | [], _ => 0
  | c :: l, ts => if isTk c.1 ts then c.2 else oneOf l ts
def oneB (l : List (ByteArray × Int)) : Sa → Int
  | .inl _ => 0
  | .inr ts => oneOf l ts
def oneS (l : List (ByteArray × Int)) : Sa → Sa
  | .inl x => .inl x
  | .inr ts => if l.any (fun c => isTk c.1 ts) then .inr ts.tail else .inr ts

/-- The word itself, if it is of that kind. -/
def kindP (k : Int) (ts : List Tk) : Re Tk :=
  match ts with
  | [] => .inl (0, 5)
  | t :: r => if t.1 = k then .inr (t, r) else .inl (t.2.2.2, 5)
def nameP (ts : List Tk) : Re ByteArray := thenR (kindP 1 ts) fun t r => .inr (t.2.1, r)
/-- A word that must stand there, and then more. -/
def wantP {α : Type} (s : ByteArray) (P : List Tk → Re α) (ts : List Tk) : Re α :=
  if isTk s ts then P ts.tail else .inl (atOf ts, 5)
def columnP (ts : List Tk) : Re Tr :=
  thenR (nameP ts) fun n r => if isTk ⟨#[46]⟩ r then thenR (nameP r.tail) fun m r' => .inr (tCol n m, r') else .inr (tCol ⟨#[]⟩ n, r)

/-- Parts with one of these words between each two, from the left. -/
def chainL (P : List Tk → Re Tr) (l : List (ByteArray × Int)) : Nat → Tr → List Tk → Re Tr
  | 0, x, ts => .inr (x, ts)
  | k + 1, x, ts => if oneOf l ts = 0 then .inr (x, ts) else thenR (P ts.tail) fun y r => chainL P l k (tTwo (oneOf l ts).toNat x y) r
def chainP (P : List Tk → Re Tr) (l : List (ByteArray × Int)) (ts : List Tk) : Re Tr := thenR (P ts) fun x r => chainL P l r.length x r

def opsOr : List (ByteArray × Int) := [(⟨#[111, 114]⟩, 15)]
def opsAnd : List (ByteArray × Int) := [(⟨#[97, 110, 100]⟩, 14)]
def opsComp : List (ByteArray × Int) := [(⟨#[61]⟩, 8), (⟨#[60, 62]⟩, 9), (⟨#[60]⟩, 10), (⟨#[60, 61]⟩, 11), (⟨#[62]⟩, 12), (⟨#[62, 61]⟩, 13)]
def opsSum : List (ByteArray × Int) := [(⟨#[43]⟩, 5), (⟨#[45]⟩, 6)]
def opsTerm : List (ByteArray × Int) := [(⟨#[42]⟩, 7)]

def leafP (ts : List Tk) : Re Tr :=
  if kdOf ts = 3 then thenR (kindP 3 ts) fun t r => .inr (tInt t.2.2.1, r)
  else if kdOf ts = 4 then thenR (kindP 4 ts) fun t r => .inr (tText t.2.1, r)
  else columnP ts
def termP (U : List Tk → Re Tr) : List Tk → Re Tr := chainP U opsTerm
def sumP (U : List Tk → Re Tr) : List Tk → Re Tr := chainP (termP U) opsSum
def compP (U : List Tk → Re Tr) (ts : List Tk) : Re Tr :=
  thenR (sumP U ts) fun x r => if oneOf opsComp r = 0 then .inr (x, r) else thenR (sumP U r.tail) fun y r' => .inr (tTwo (oneOf opsComp r).toNat x y, r')
def exprOf (N : List Tk → Re Tr) : List Tk → Re Tr := chainP (chainP N opsAnd) opsOr
/-- The word that stands there, and a part within it. -/
def inP (P : Option (List Tk → Re Tr)) (ts : List Tk) : Re Tr :=
  match P with
  | none => .inl (atOf ts, 6)
  | some p => p ts.tail
/-- unary and not, of what may stand one deeper. -/
def unaryOf (U E : Option (List Tk → Re Tr)) (ts : List Tk) : Re Tr :=
  if isTk ⟨#[45]⟩ ts then thenR (inP U ts) fun x r => .inr (tOne 3 x, r)
  else if isTk ⟨#[40]⟩ ts then thenR (inP E ts) fun x r => if isTk ⟨#[41]⟩ r then .inr (x, r.tail) else .inl (atOf r, 5)
  else leafP ts
def notOf (N : Option (List Tk → Re Tr)) (U : List Tk → Re Tr) (ts : List Tk) : Re Tr :=
  if isTk ⟨#[110, 111, 116]⟩ ts then thenR (inP N ts) fun x r => .inr (tOne 4 x, r)
  else compP U ts
/-- unary and not where n more may lie within one another. -/
def unP : Nat → (List Tk → Re Tr) × (List Tk → Re Tr)
  | 0 => (unaryOf none none, notOf none (unaryOf none none))
  | n + 1 => (unaryOf (some (unP n).1) (some (exprOf (unP n).2)), notOf (some (unP n).2) (unaryOf (some (unP n).1) (some (exprOf (unP n).2))))
def unaryP (n : Nat) : List Tk → Re Tr := (unP n).1
def notP (n : Nat) : List Tk → Re Tr := (unP n).2
def exprP (n : Nat) : List Tk → Re Tr := exprOf (notP n)
/-- What may lie one deeper, where n may. -/
def below (f : Nat → List Tk → Re Tr) : Nat → Option (List Tk → Re Tr)
  | 0 => none
  | n + 1 => some (f n)
theorem unaryP_eq (n : Nat) : unaryP n = unaryOf (below unaryP n) (below exprP n) := by cases n <;> rfl
theorem notP_eq (n : Nat) : notP n = notOf (below notP n) (unaryP n) := by cases n <;> rfl
theorem exprP_eq (n : Nat) : exprP n = chainP (chainP (notP n) opsAnd) opsOr := rfl

/-- One thing, and one more behind each comma. -/
def listL {α : Type} (P : List Tk → Re α) : Nat → List α → List Tk → Re (List α)
  | 0, l, ts => .inr (l, ts)
  | k + 1, l, ts => if isTk ⟨#[44]⟩ ts then thenR (P ts.tail) fun y r => listL P k (l ++ [y]) r else .inr (l, ts)
def listP {α : Type} (P : List Tk → Re α) (ts : List Tk) : Re (List α) := thenR (P ts) fun x r => listL P r.length [x] r

/-- Nothing that is read makes more words. -/
def Shr {α : Type} (P : List Tk → Re α) : Prop := ∀ ts t r, P ts = .inr (t, r) → r.length ≤ ts.length

theorem Ended.ne {ts : List Tk} (h : Ended ts) : ts ≠ [] := by rintro rfl; exact h
theorem Ended.pos {ts : List Tk} (h : Ended ts) : 0 < ts.length := by cases ts with | nil => exact h.elim | cons => simp
theorem Ended.tail {ts : List Tk} (h : Ended ts) (hk : kdOf ts ≠ 6) : Ended ts.tail := by
  cases ts with
  | nil => exact h.elim
  | cons t r => exact h.resolve_left hk
theorem isTk_kd {s : ByteArray} {ts : List Tk} (h : isTk s ts = true) : kdOf ts ≠ 6 ∧ (kdOf ts = 2 ∨ kdOf ts = 5) := by
  cases ts with
  | nil => simp [isTk] at h
  | cons t r =>
    simp [isTk] at h
    simp only [kdOf]
    omega
theorem isTk_ne {s : ByteArray} {ts : List Tk} (h : isTk s ts = true) : ∃ t r, ts = t :: r := by
  cases ts with
  | nil => simp [isTk] at h
  | cons t r => exact ⟨t, r, rfl⟩
theorem oneOf_any {l : List (ByteArray × Int)} {ts : List Tk} (hl : ∀ c ∈ l, c.2 ≠ 0) : (l.any fun c => isTk c.1 ts) = !decide (oneOf l ts = 0) := by
  induction l with
  | nil => rfl
  | cons c l ih =>
    rw [List.any_cons, oneOf, ih (fun x hx => hl x (List.mem_cons_of_mem _ hx))]
    cases h : isTk c.1 ts with
    | false => simp
    | true => simp [hl c List.mem_cons_self]

end Go.Proofs.Ytnboooaockgoiab
/- The reader of words in memory; the walks of its smallest functions. -/
namespace Go.Proofs.Ytnboooaockgoiab
open Go.RowKit
set_option linter.unusedVariables false

/-- The reader's words are ts, from block b, place o on. -/
structure Wo (w : World) (g b o n c : Nat) (ts : List Tk) : Prop where
  lt : b < g
  ended : Ended ts
  few : ts.length ≤ 500
  rd : RdT w (some ⟨b, o, none⟩) n c ts
theorem Wo.keep {w w' : World} {g b o n c : Nat} {ts : List Tk} (h : Wo w g b o n c ts) (hk : w'.heap[b]? = w.heap[b]?) : Wo w' g b o n c ts :=
  ⟨h.lt, h.ended, h.few, ⟨h.rd.len, h.rd.cap, h.rd.max, h.rd.non, fun hn => by
    obtain ⟨b', o', e, hc⟩ := h.rd.cells hn
    cases e
    refine ⟨b, o, rfl, fun i hi => ?_⟩
    obtain ⟨q0, q1, q2, q3⟩ := hc i hi
    exact ⟨(World.cell?_of_block (a := ⟨b, _, none⟩) hk).trans q0, (World.cell?_of_block (a := ⟨b, _, none⟩) hk).trans q1, (World.cell?_of_block (a := ⟨b, _, none⟩) hk).trans q2, (World.cell?_of_block (a := ⟨b, _, none⟩) hk).trans q3⟩⟩⟩
theorem Wo.pos {w : World} {g b o n c : Nat} {ts : List Tk} (h : Wo w g b o n c ts) : 0 < n := by have := h.ended.pos; rw [h.rd.len] at this; exact this
theorem Wo.head {w : World} {g b o n c : Nat} {t : Tk} {ts : List Tk} (h : Wo w g b o n c (t :: ts)) : w.cell? ⟨b, o, none⟩ = some (.int .i64 t.1) ∧ w.cell? ⟨b, o + 1, none⟩ = some (.string t.2.1) ∧ w.cell? ⟨b, o + 2, none⟩ = some (.int .i64 t.2.2.1) ∧ w.cell? ⟨b, o + 3, none⟩ = some (.int .i64 t.2.2.2) := by
  obtain ⟨b', o', e, hc⟩ := h.rd.cells h.pos
  cases e
  have := hc 0 h.pos
  simpa [Ct, tth] using this
theorem Wo.blt {w : World} {g b o n c : Nat} {ts : List Tk} (h : Wo w g b o n c ts) : b < w.heap.size := by
  obtain ⟨b', o', e, hc⟩ := h.rd.cells h.pos
  cases e
  exact World.block_lt_of_cell? _ _ (hc 0 h.pos).1
theorem Wo.tail {w : World} {g b o n c : Nat} {t : Tk} {ts : List Tk} (h : Wo w g b o n c (t :: ts)) (hk : t.1 ≠ 6) : Wo w g b (o + 4) (n - 1) (c - 1) ts := by
  have hl := h.rd.len
  have hp := h.pos
  have hc := h.rd.cap
  have hm := h.rd.max
  have he : Ended ts := h.ended.resolve_left hk
  rw [List.length_cons] at hl
  have hf := h.few
  rw [List.length_cons] at hf
  refine ⟨h.lt, he, by omega, ⟨by omega, by omega, by omega, fun e => by simp at e, fun hn => ?_⟩⟩
  obtain ⟨b', o', e, hc'⟩ := h.rd.cells hp
  cases e
  refine ⟨b, o + 4, rfl, fun i hi => ?_⟩
  have := hc' (i + 1) (by omega)
  rw [show o + (i + 1) * 4 = o + 4 + i * 4 from by omega, show tth (t :: ts) (i + 1) = tth ts i from by simp [tth]] at this
  exact this

/-- How much is yet to be read, for a measure. -/
def szW (g : Nat) (w : World) : Nat := match w.cell? ⟨g, 3, none⟩ with
  | some (.int _ 0) => (match w.cell? ⟨g, 0, none⟩ with | some (.slice _ n _) => n | _ => 0)
  | _ => 0
/-- The word that is to be read; of no kind behind a fault. -/
def nxT : Sa → Tk
  | .inl _ => (0, ⟨#[]⟩, 0, 0)
  | .inr ts => tth ts 0

theorem below_new4 (w : World) (o : Obj) (a b c d : Value) : Below w.heap.size w (((((w.alloc o).setCell ⟨w.heap.size, 0, none⟩ a).setCell ⟨w.heap.size, 1, none⟩ b).setCell ⟨w.heap.size, 2, none⟩ c).setCell ⟨w.heap.size, 3, none⟩ d) := by
  refine ⟨rfl, rfl, rfl, by simp [World.setCell], fun k hk => ?_⟩
  rw [Below.heap_setCell _ _ _ _ (by show k ≠ w.heap.size; omega), Below.heap_setCell _ _ _ _ (by show k ≠ w.heap.size; omega), Below.heap_setCell _ _ _ _ (by show k ≠ w.heap.size; omega), Below.heap_setCell _ _ _ _ (by show k ≠ w.heap.size; omega)]
  exact ((Below.refl w.heap.size w).alloc (Nat.le_refl _) o).block k hk

end Go.Proofs.Ytnboooaockgoiab
/- The walks of the reader's fail, skip, is, take. -/
namespace Go.Proofs.Ytnboooaockgoiab
open Go.RowKit
set_option linter.unusedVariables false

theorem hid {p : Prop} (h : p) : Hid p := h
theorem But.later {g : Nat} {a w w' : World} (h : But g a w) (k : Below w.heap.size w w') : But g a w' := h.trans (But.of k)
theorem takeB_nx (s : ByteArray) (S : Sa) : takeB s S = (((nxT S).1 == 2 || (nxT S).1 == 5) && eqS (nxT S).2.1 s) := by
  match S with
  | .inl x => rfl
  | .inr [] => rfl
  | .inr (t :: ts) => rfl

theorem takeB_true {s : ByteArray} {S : Sa} (h : takeB s S = true) : ∃ t ts, S = .inr (t :: ts) ∧ t.1 ≠ 6 ∧ takeS s S = .inr ts := by
  match S with
  | .inl x => simp [takeB] at h
  | .inr [] => simp [takeB, isTk] at h
  | .inr (t :: ts) =>
    have h' : isTk s (t :: ts) = true := h
    refine ⟨t, ts, rfl, (isTk_kd h').1, ?_⟩
    simp [takeS, h']
theorem takeB_false {s : ByteArray} {S : Sa} (h : takeB s S = false) : takeS s S = S := by
  match S with
  | .inl x => rfl
  | .inr ts =>
    have h' : isTk s ts = false := h
    simp [takeS, h']

end Go.Proofs.Ytnboooaockgoiab
/- The walks of the reader's want, oneOf, kind, name, end. -/
namespace Go.Proofs.Ytnboooaockgoiab
open Go.RowKit
set_option linter.unusedVariables false

/-- The texts lie in block b, one behind the other. -/
def Sw (w : World) (b : Nat) (ls : List ByteArray) : Prop := ∀ i (h : i < ls.length), w.cell? ⟨b, i, none⟩ = some (.string ls[i])
theorem Sw.but {g b : Nat} {w w' : World} {ls : List ByteArray} (h : Sw w b ls) (hb : But g w w') (hg : b ≠ g) : Sw w' b ls := fun i hi => hb.cell (h i hi) hg
def wantsS (ls : List ByteArray) (S : Sa) : Sa := ls.foldl (fun S s => wantS s S) S
theorem wantS_true {s : ByteArray} {S : Sa} (h : takeB s S = true) : wantS s S = takeS s S := by
  match S with
  | .inl x => rfl
  | .inr ts => have h' : isTk s ts = true := h; simp [wantS, takeS, h']
theorem wantS_false {s : ByteArray} {S : Sa} (h : takeB s S = false) : wantS s S = failS 5 S := by
  match S with
  | .inl x => rfl
  | .inr ts => have h' : isTk s ts = false := h; simp [wantS, failS, h']

/-- The choices lie in block b, one behind the other. -/
def Cw (w : World) (b : Nat) (l : List (ByteArray × Int)) : Prop := ∀ i (h : i < l.length), w.cell? ⟨b, i * 2, none⟩ = some (.string l[i].1) ∧ w.cell? ⟨b, i * 2 + 1, none⟩ = some (.int .i64 l[i].2)
theorem Cw.but {g b : Nat} {w w' : World} {l : List (ByteArray × Int)} (h : Cw w b l) (hb : But g w w') (hg : b ≠ g) : Cw w' b l := fun i hi => ⟨hb.cell (h i hi).1 hg, hb.cell (h i hi).2 hg⟩
/-- None of the first k choices stands there. -/
def NoneOf (l : List (ByteArray × Int)) (S : Sa) : Prop := ∀ c ∈ l, takeB c.1 S = false
theorem oneB_at {l : List (ByteArray × Int)} {S : Sa} {k : Nat} (hk : k < l.length) (hN : NoneOf (l.take k) S) (h : takeB l[k].1 S = true) : oneB l S = l[k].2 ∧ oneS l S = takeS l[k].1 S := by
  match S with
  | .inl x => simp [takeB] at h
  | .inr ts =>
    have h' : isTk l[k].1 ts = true := h
    have hN' : ∀ c ∈ l.take k, isTk c.1 ts = false := hN
    clear hN h
    refine ⟨?_, ?_⟩
    · induction l generalizing k with
      | nil => simp at hk
      | cons c l ih =>
        cases k with
        | zero => simp only [List.getElem_cons_zero] at h'; simp [oneB, oneOf, h']
        | succ k =>
          have hc := hN' c (by simp)
          simp only [List.getElem_cons_succ] at h' ⊢
          have := ih (k := k) (by simpa using hk) h' (fun x hx => hN' x (by simp [hx]))
          simp only [oneB, oneOf, hc] at this ⊢
          simpa using this
    · have : (l.any fun c => isTk c.1 ts) = true := List.any_eq_true.2 ⟨l[k], List.getElem_mem hk, h'⟩
      simp only [oneS, takeS, this, h', if_true]
theorem oneB_none {l : List (ByteArray × Int)} {S : Sa} (hN : NoneOf l S) : oneB l S = 0 ∧ oneS l S = S := by
  match S with
  | .inl x => exact ⟨rfl, rfl⟩
  | .inr ts =>
    have hN' : ∀ c ∈ l, isTk c.1 ts = false := hN
    refine ⟨?_, ?_⟩
    · clear hN
      induction l with
      | nil => rfl
      | cons c l ih =>
        have hc := hN' c (by simp)
        have := ih (fun x hx => hN' x (by simp [hx]))
        simp only [oneB, oneOf, hc] at this ⊢
        simpa using this
    · have : (l.any fun c => isTk c.1 ts) = false := by
        rw [List.any_eq_false]
        intro c hc
        rw [hN' c hc]; simp
      simp only [oneS, this, Bool.false_eq_true, if_false]
theorem NoneOf.step {l : List (ByteArray × Int)} {S : Sa} {k : Nat} (hk : k < l.length) (hN : NoneOf (l.take k) S) (h : takeB l[k].1 S = false) : NoneOf (l.take (k + 1)) S := by
  intro c hc
  rw [List.take_succ_eq_append_getElem hk, List.mem_append, List.mem_singleton] at hc
  rcases hc with hc | rfl
  · exact hN c hc
  · exact h

theorem kind_nx {k : Int} {S : Sa} (hk : k ≠ 0) : (nxT S).1 = k → ∃ ts, S = .inr (nxT S :: ts) ∧ runP (kindP k) S = .inr (nxT S, ts) := by
  intro h
  match S with
  | .inl x => exact absurd h.symm hk
  | .inr [] => exact absurd h.symm hk
  | .inr (t :: ts) =>
    have h' : t.1 = k := h
    exact ⟨ts, rfl, by show kindP k (t :: ts) = _; rw [kindP, if_pos h']; rfl⟩
theorem nameP_run (S : Sa) : runP nameP S = thenR (runP (kindP 1) S) fun t r => .inr (t.2.1, r) := by cases S <;> rfl

end Go.Proofs.Ytnboooaockgoiab
/- Expressions in memory; the walks of ofOne, ofTwo, column. -/
namespace Go.Proofs.Ytnboooaockgoiab
open Go.RowKit
set_option linter.unusedVariables false

/-- An expression's value. -/
def exV (o : Int) (p : Pay) (sl : Value) : Value := .agg #[.int .i64 o, .int .i64 p.1, .int .i64 p.2.1, .string p.2.2.1, .string p.2.2.2.1, .string p.2.2.2.2, sl]
/-- The seven cells of an expression from place o on in block b. -/
def Ce (w : World) (b o : Nat) (op : Int) (p : Pay) (sl : Value) : Prop :=
  w.cell? ⟨b, o, none⟩ = some (.int .i64 op) ∧ w.cell? ⟨b, o + 1, none⟩ = some (.int .i64 p.1) ∧ w.cell? ⟨b, o + 2, none⟩ = some (.int .i64 p.2.1) ∧ w.cell? ⟨b, o + 3, none⟩ = some (.string p.2.2.1) ∧ w.cell? ⟨b, o + 4, none⟩ = some (.string p.2.2.2.1) ∧ w.cell? ⟨b, o + 5, none⟩ = some (.string p.2.2.2.2) ∧ w.cell? ⟨b, o + 6, none⟩ = some sl
theorem Ce.keep {w w' : World} {b o : Nat} {op : Int} {p : Pay} {sl : Value} (h : Ce w b o op p sl) (hk : w'.heap[b]? = w.heap[b]?) : Ce w' b o op p sl := by
  obtain ⟨h0, h1, h2, h3, h4, h5, h6⟩ := h
  exact ⟨(World.cell?_of_block (a := ⟨b, _, none⟩) hk).trans h0, (World.cell?_of_block (a := ⟨b, _, none⟩) hk).trans h1, (World.cell?_of_block (a := ⟨b, _, none⟩) hk).trans h2, (World.cell?_of_block (a := ⟨b, _, none⟩) hk).trans h3, (World.cell?_of_block (a := ⟨b, _, none⟩) hk).trans h4, (World.cell?_of_block (a := ⟨b, _, none⟩) hk).trans h5, (World.cell?_of_block (a := ⟨b, _, none⟩) hk).trans h6⟩
theorem Ce.lt {w : World} {b o : Nat} {op : Int} {p : Pay} {sl : Value} (h : Ce w b o op p sl) : b < w.heap.size := World.block_lt_of_cell? _ _ h.1
def noT : Tr → Bool
  | .nil => true
  | .node _ _ _ _ _ => false
/-- The value is the expression t; its rows lie in blocks that Q lets. -/
def Ex (Q : Nat → Prop) (w : World) : Tr → Value → Prop
  | .nil, _ => False
  | .node _ op p l r, v => ∃ ao n c, v = exV op p (.slice ao n c) ∧ n ≤ c ∧ c ≤ 9223372036854775807 ∧
      ((noT l = true ∧ noT r = true ∧ n = 0) ∨
       (noT l = false ∧ noT r = true ∧ n = 1 ∧ ∃ b o op1 p1 a1 n1 c1, ao = some ⟨b, o, none⟩ ∧ Q b ∧ Ce w b o op1 p1 (.slice a1 n1 c1) ∧ Ex Q w l (exV op1 p1 (.slice a1 n1 c1))) ∨
       (noT l = false ∧ noT r = false ∧ n = 2 ∧ ∃ b o op1 p1 a1 n1 c1 op2 p2 a2 n2 c2, ao = some ⟨b, o, none⟩ ∧ Q b ∧ Ce w b o op1 p1 (.slice a1 n1 c1) ∧ Ce w b (o + 7) op2 p2 (.slice a2 n2 c2) ∧ Ex Q w l (exV op1 p1 (.slice a1 n1 c1)) ∧ Ex Q w r (exV op2 p2 (.slice a2 n2 c2))))
theorem Ex.not_nil {Q : Nat → Prop} {w : World} {t : Tr} {v : Value} (h : Ex Q w t v) : noT t = false := by
  cases t with
  | nil => exact h.elim
  | node => rfl
theorem Ex.keep {Q : Nat → Prop} {w w' : World} (hk : ∀ k, Q k → k < w.heap.size → w'.heap[k]? = w.heap[k]?) : ∀ {t : Tr} {v : Value}, Ex Q w t v → Ex Q w' t v := by
  intro t
  induction t with
  | nil => intro v h; exact h.elim
  | node x op p l r ihl ihr =>
    rintro v ⟨ao, n, c, hv, hn, hc, h⟩
    refine ⟨ao, n, c, hv, hn, hc, ?_⟩
    rcases h with h | ⟨h1, h2, h3, b, o, op1, p1, a1, n1, c1, ha, hq, hx, hl⟩ | ⟨h1, h2, h3, b, o, op1, p1, a1, n1, c1, op2, p2, a2, n2, c2, ha, hq, hx, hy, hl, hr⟩
    · exact .inl h
    · exact .inr (.inl ⟨h1, h2, h3, b, o, op1, p1, a1, n1, c1, ha, hq, hx.keep (hk b hq hx.lt), ihl hl⟩)
    · exact .inr (.inr ⟨h1, h2, h3, b, o, op1, p1, a1, n1, c1, op2, p2, a2, n2, c2, ha, hq, hx.keep (hk b hq hx.lt), hy.keep (hk b hq hx.lt), ihl hl, ihr hr⟩)
theorem Ex.mono {Q Q' : Nat → Prop} {w : World} (hk : ∀ k, Q k → k < w.heap.size → Q' k) : ∀ {t : Tr} {v : Value}, Ex Q w t v → Ex Q' w t v := by
  intro t
  induction t with
  | nil => intro v h; exact h.elim
  | node x op p l r ihl ihr =>
    rintro v ⟨ao, n, c, hv, hn, hc, h⟩
    refine ⟨ao, n, c, hv, hn, hc, ?_⟩
    rcases h with h | ⟨h1, h2, h3, b, o, op1, p1, a1, n1, c1, ha, hq, hx, hl⟩ | ⟨h1, h2, h3, b, o, op1, p1, a1, n1, c1, op2, p2, a2, n2, c2, ha, hq, hx, hy, hl, hr⟩
    · exact .inl h
    · exact .inr (.inl ⟨h1, h2, h3, b, o, op1, p1, a1, n1, c1, ha, hk b hq hx.lt, hx, ihl hl⟩)
    · exact .inr (.inr ⟨h1, h2, h3, b, o, op1, p1, a1, n1, c1, op2, p2, a2, n2, c2, ha, hk b hq hx.lt, hx, hy, ihl hl, ihr hr⟩)
theorem Ex.leaf {Q : Nat → Prop} {w : World} (x op : Nat) (p : Pay) : Ex Q w (.node x op p .nil .nil) (exV op p (.slice none 0 0)) :=
  ⟨none, 0, 0, rfl, Nat.le_refl _, by omega, .inl ⟨rfl, rfl, rfl⟩⟩
theorem Ex.one {Q : Nat → Prop} {w : World} {op : Nat} {t : Tr} {b : Nat} {op1 : Int} {p1 : Pay} {a1 : Option Addr} {n1 c1 : Nat} (hq : Q b) (hc : Ce w b 0 op1 p1 (.slice a1 n1 c1)) (h : Ex Q w t (exV op1 p1 (.slice a1 n1 c1))) :
    Ex Q w (tOne op t) (exV op nilP (.slice (some ⟨b, 0, none⟩) 1 1)) :=
  ⟨_, 1, 1, rfl, Nat.le_refl _, by omega, .inr (.inl ⟨h.not_nil, rfl, rfl, b, 0, op1, p1, a1, n1, c1, rfl, hq, hc, h⟩)⟩
theorem Ex.two {Q : Nat → Prop} {w : World} {op : Nat} {t u : Tr} {b : Nat} {op1 : Int} {p1 : Pay} {a1 : Option Addr} {n1 c1 : Nat} {op2 : Int} {p2 : Pay} {a2 : Option Addr} {n2 c2 : Nat} (hq : Q b) (hc : Ce w b 0 op1 p1 (.slice a1 n1 c1)) (hd : Ce w b 7 op2 p2 (.slice a2 n2 c2))
    (h : Ex Q w t (exV op1 p1 (.slice a1 n1 c1))) (k : Ex Q w u (exV op2 p2 (.slice a2 n2 c2))) :
    Ex Q w (tTwo op t u) (exV op nilP (.slice (some ⟨b, 0, none⟩) 2 2)) :=
  ⟨_, 2, 2, rfl, Nat.le_refl _, by omega, .inr (.inr ⟨h.not_nil, k.not_nil, rfl, b, 0, op1, p1, a1, n1, c1, op2, p2, a2, n2, c2, rfl, hq, hc, by simpa using hd, h, k⟩)⟩

/-- The seven cells of a block of its own. -/
structure Be (w : World) (b : Nat) (op : Int) (p : Pay) (sl : Value) : Prop where
  row : w.heap[b]? = some (.cells #[.int .i64 op, .int .i64 p.1, .int .i64 p.2.1, .string p.2.2.1, .string p.2.2.2.1, .string p.2.2.2.2, sl] 100 (0, 0))
theorem Be.new (w : World) (op : Int) (p : Pay) (sl : Value) : Be (w.alloc (.cells #[.int .i64 op, .int .i64 p.1, .int .i64 p.2.1, .string p.2.2.1, .string p.2.2.2.1, .string p.2.2.2.2, sl] 100)) w.heap.size op p sl := ⟨heap_alloc_new w _⟩
theorem Be.lt {w : World} {b : Nat} {op : Int} {p : Pay} {sl : Value} (h : Be w b op p sl) : b < w.heap.size := (Array.getElem?_eq_some_iff.1 h.row).1
theorem Be.keep {w w' : World} {b : Nat} {op : Int} {p : Pay} {sl : Value} (h : Be w b op p sl) (hk : w'.heap[b]? = w.heap[b]?) : Be w' b op p sl := ⟨hk.trans h.row⟩
theorem Be.later {w w' : World} {b : Nat} {op : Int} {p : Pay} {sl : Value} (h : Be w b op p sl) (hb : Below w.heap.size w w') : Be w' b op p sl := h.keep (hb.block b h.lt)
theorem Be.but {w w' : World} {b g : Nat} {op : Int} {p : Pay} {sl : Value} (h : Be w b op p sl) (hb : But g w w') (hg : b ≠ g) : Be w' b op p sl := h.keep (hb.block b h.lt hg)
theorem Be.cells {w : World} {b : Nat} {op : Int} {p : Pay} {sl : Value} (h : Be w b op p sl) : Ce w b 0 op p sl := by
  unfold Ce World.cell?; rw [h.row]; exact ⟨rfl, rfl, rfl, rfl, rfl, rfl, rfl⟩
theorem Be.free {w : World} {b : Nat} {op : Int} {p : Pay} {sl : Value} (h : Be w b op p sl) : w.frozen? ⟨b, 0, none⟩ = false ∧ w.frozen? ⟨b, 1, none⟩ = false ∧ w.frozen? ⟨b, 2, none⟩ = false ∧ w.frozen? ⟨b, 3, none⟩ = false ∧ w.frozen? ⟨b, 4, none⟩ = false ∧ w.frozen? ⟨b, 5, none⟩ = false ∧ w.frozen? ⟨b, 6, none⟩ = false := by
  unfold World.frozen?; rw [h.row]; exact ⟨rfl, rfl, rfl, rfl, rfl, rfl, rfl⟩
/-- Block b is stored into, cell by cell. -/
def set7 (w : World) (b : Nat) (op : Int) (p : Pay) (sl : Value) : World :=
  ((((((w.setCell ⟨b, 0, none⟩ (.int .i64 op)).setCell ⟨b, 1, none⟩ (.int .i64 p.1)).setCell ⟨b, 2, none⟩ (.int .i64 p.2.1)).setCell ⟨b, 3, none⟩ (.string p.2.2.1)).setCell ⟨b, 4, none⟩ (.string p.2.2.2.1)).setCell ⟨b, 5, none⟩ (.string p.2.2.2.2)).setCell ⟨b, 6, none⟩ sl
theorem set7_heap (w : World) (b : Nat) (op : Int) (p : Pay) (sl : Value) {k : Nat} (hk : k ≠ b) : (set7 w b op p sl).heap[k]? = w.heap[k]? := by
  unfold set7
  rw [Below.heap_setCell _ _ _ _ hk, Below.heap_setCell _ _ _ _ hk, Below.heap_setCell _ _ _ _ hk, Below.heap_setCell _ _ _ _ hk, Below.heap_setCell _ _ _ _ hk, Below.heap_setCell _ _ _ _ hk, Below.heap_setCell _ _ _ _ hk]
theorem set7_size (w : World) (b : Nat) (op : Int) (p : Pay) (sl : Value) : (set7 w b op p sl).heap.size = w.heap.size := by simp [set7, World.setCell]
theorem Be.set {w : World} {b : Nat} {op : Int} {p : Pay} {sl : Value} (h : Be w b op p sl) (op' : Int) (p' : Pay) (sl' : Value) : Be (set7 w b op' p' sl') b op' p' sl' := ⟨by simp [set7, World.setCell, Array.getElem?_modify, h.row]⟩
theorem But.set7 {g : Nat} {a w : World} (h : But g a w) {b : Nat} (hb : a.heap.size ≤ b) (op : Int) (p : Pay) (sl : Value) : But g a (set7 w b op p sl) :=
  ((((((h.new hb 0 _).new hb 1 _).new hb 2 _).new hb 3 _).new hb 4 _).new hb 5 _).new hb 6 _
theorem Ex.set7 {Q : Nat → Prop} {w : World} {t : Tr} {v : Value} (h : Ex Q w t v) {b : Nat} (hb : ¬ Q b) (op : Int) (p : Pay) (sl : Value) : Ex Q (set7 w b op p sl) t v :=
  h.keep fun k hq _ => set7_heap _ _ _ _ _ (by rintro rfl; exact hb hq)
theorem Ex.but {Q : Nat → Prop} {w w' : World} {t : Tr} {v : Value} {g : Nat} (h : Ex Q w t v) (hb : But g w w') (hg : ¬ Q g) : Ex Q w' t v :=
  h.keep fun k hq hk => hb.block k hk (by rintro rfl; exact hg hq)
theorem Ex.later {Q : Nat → Prop} {w w' : World} {t : Tr} {v : Value} (h : Ex Q w t v) (hb : Below w.heap.size w w') : Ex Q w' t v :=
  h.keep fun k hq hk => hb.block k hk

theorem bal {a w : World} (h : Below a.heap.size a w) (o : Obj) : Below a.heap.size a (w.alloc o) := h.alloc h.size o

/-- What was read, turned. -/
def mapR {α β : Type} (f : α → β) (R : Re α) : Re β := thenR R fun t r => .inr (f t, r)
theorem stO_mapR {α β : Type} (f : α → β) (R : Re α) : stO (mapR f R) = stO R := by cases R <;> rfl
theorem mapR_inr {α β : Type} {f : α → β} {R : Re α} {t : β} {r : List Tk} (h : mapR f R = .inr (t, r)) : ∃ u, R = .inr (u, r) ∧ t = f u := by
  cases R with
  | inl x => cases h
  | inr x => cases h; exact ⟨x.1, rfl, rfl⟩
theorem stO_inr {α : Type} {R : Re α} {ts : List Tk} (h : stO R = .inr ts) : ∃ u, R = .inr (u, ts) := by
  cases R with
  | inl x => cases h
  | inr x => cases h; exact ⟨x.1, rfl⟩
theorem column_false {S : Sa} (h : takeB ⟨#[46]⟩ (stO (runP nameP S)) = false) : runP columnP S = mapR (tCol ⟨#[]⟩) (runP nameP S) := by
  match S with
  | .inl x => rfl
  | .inr ts =>
    have e : runP nameP (.inr ts) = nameP ts := rfl
    rw [e] at h ⊢
    show columnP ts = _
    rw [columnP]
    cases hn : nameP ts with
    | inl x => rfl
    | inr x =>
      rw [hn] at h
      have h' : isTk ⟨#[46]⟩ x.2 = false := h
      show (if isTk ⟨#[46]⟩ x.2 then _ else _) = _
      rw [if_neg (by rw [h']; simp)]
      rfl
theorem column_true {S : Sa} {n : ByteArray} {t : Tk} {ts : List Tk} (h : runP nameP S = .inr (n, t :: ts)) (hb : isTk ⟨#[46]⟩ (t :: ts) = true) : runP columnP S = mapR (tCol n) (nameP ts) := by
  match S with
  | .inl x => cases h
  | .inr us =>
    have e : nameP us = .inr (n, t :: ts) := h
    show columnP us = _
    rw [columnP, e]
    show (if isTk ⟨#[46]⟩ (t :: ts) then _ else _) = _
    rw [if_pos hb]
    rfl
theorem Be.set5 {w : World} {b : Nat} {op : Int} {k i : Int} {x t m : ByteArray} {sl : Value} (h : Be w b op (k, i, x, t, m) sl) (s : ByteArray) : Be (w.setCell ⟨b, 5, none⟩ (.string s)) b op (k, i, x, t, s) sl := ⟨by simp [World.setCell, Array.getElem?_modify, h.row]⟩
theorem Be.set4 {w : World} {b : Nat} {op : Int} {k i : Int} {x t m : ByteArray} {sl : Value} (h : Be w b op (k, i, x, t, m) sl) (s : ByteArray) : Be (w.setCell ⟨b, 4, none⟩ (.string s)) b op (k, i, x, s, m) sl := ⟨by simp [World.setCell, Array.getElem?_modify, h.row]⟩
theorem Be.other {w : World} {b : Nat} {op : Int} {p : Pay} {sl : Value} (h : Be w b op p sl) {r : Nat} (hr : b ≠ r) (o : Nat) (v : Value) : Be (w.setCell ⟨r, o, none⟩ v) b op p sl := h.keep (Below.heap_setCell _ _ _ _ hr)
abbrev zE : Obj := .cells #[.int .i64 0, .int .i64 0, .int .i64 0, .string ⟨#[]⟩, .string ⟨#[]⟩, .string ⟨#[]⟩, .slice none 0 0] 100

end Go.Proofs.Ytnboooaockgoiab
