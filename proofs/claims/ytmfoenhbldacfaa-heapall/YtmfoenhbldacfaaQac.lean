import Derived.Test.YtmfoenhbldacfaaQab
import Derived.Deep.MidRow
import Derived.Laws.CopyRow
import Derived.Lib.SliceRun
/- A page in memory; words read and written. -/
namespace Go.Proofs.Ytmfoenhbldacfaa
open Go.RowKit
set_option linter.unusedVariables false

/-- But for block g all that lay in w lies in w' as it did. -/
structure Rest (g : Nat) (w w' : World) : Prop where
  os : w'.os = w.os
  tape : w'.tape = w.tape
  output : w'.output = w.output
  size : w.heap.size ≤ w'.heap.size
  block : ∀ k, k < w.heap.size → k ≠ g → w'.heap[k]? = w.heap[k]?
theorem Rest.refl (g : Nat) (w : World) : Rest g w w := ⟨rfl, rfl, rfl, Nat.le_refl _, fun _ _ _ => rfl⟩
theorem Rest.trans {g : Nat} {a b c : World} (h : Rest g a b) (k : Rest g b c) : Rest g a c :=
  ⟨k.os.trans h.os, k.tape.trans h.tape, k.output.trans h.output, Nat.le_trans h.size k.size, fun i hi hg => (k.block i (Nat.lt_of_lt_of_le hi h.size) hg).trans (h.block i hi hg)⟩
theorem Rest.of {g : Nat} {w w' : World} (h : Below w.heap.size w w') : Rest g w w' := ⟨h.os, h.tape, h.output, h.size, fun k hk _ => h.block k hk⟩
theorem Rest.set (g o : Nat) (w : World) (v : Value) : Rest g w (w.setCell ⟨g, o, none⟩ v) := ⟨rfl, rfl, rfl, by simp [World.setCell], fun k _ hk => Below.heap_setCell _ _ _ _ hk⟩
theorem Rest.row (g : Nat) (w : World) (cs : Array Value) : Rest g w (w.setRow g cs) := ⟨rfl, rfl, rfl, by simp [World.setRow], fun k _ hk => setRow_other w g k cs hk⟩
theorem Rest.below {g B : Nat} {a w w' : World} (h : Below B a w) (k : Rest g w w') (hB : B ≤ g) (hw : B ≤ w.heap.size) : Below B a w' :=
  h.trans ⟨k.os, k.tape, k.output, k.size, fun i hi => k.block i (by omega) (by omega)⟩
theorem Rest.cell {g : Nat} {w w' : World} (h : Rest g w w') {a : Addr} {v : Value} (hc : w.cell? a = some v) (hg : a.block ≠ g) : w'.cell? a = some v :=
  (World.cell?_of_block (h.block a.block (World.block_lt_of_cell? _ _ hc) hg)).trans hc
theorem Rest.drewN {g : Nat} {w w' : World} (h : Rest g w w') (n : Nat) : Rest g w (w'.drewN n) := ⟨h.os, h.tape, h.output, h.size, h.block⟩

/-- Block g holds those bytes, as a page does. -/
structure Pg (w : World) (g : Nat) (B : List Int) : Prop where
  row : w.heap[g]? = some (.cells (B.map (Value.int .u8)).toArray 69 (0, 0))
theorem Pg.lt {w : World} {g : Nat} {B : List Int} (h : Pg w g B) : g < w.heap.size := (Array.getElem?_eq_some_iff.1 h.row).1
theorem Pg.cell {w : World} {g : Nat} {B : List Int} (h : Pg w g B) {i : Nat} (hi : i < B.length) : w.cell? ⟨g, i, none⟩ = some (.int .u8 (nth B i)) := by
  unfold World.cell?; rw [h.row]; simp [nth, hi]
theorem Pg.frozen {w : World} {g : Nat} {B : List Int} (h : Pg w g B) (i : Nat) : w.frozen? ⟨g, i, none⟩ = false := by
  unfold World.frozen?; rw [h.row]; rfl
theorem Pg.later {w w' : World} {g : Nat} {B : List Int} (h : Pg w g B) (hb : Below w.heap.size w w') : Pg w' g B := ⟨by rw [hb.block g h.lt]; exact h.row⟩
theorem Pg.drewN {w : World} {g : Nat} {B : List Int} (h : Pg w g B) (n : Nat) : Pg (w.drewN n) g B := ⟨h.row⟩
theorem Pg.alloc {w : World} {g : Nat} {B : List Int} (h : Pg w g B) (o : Obj) : Pg (w.alloc o) g B := h.later ((Below.refl _ _).alloc (Nat.le_refl _) _)
theorem Pg.rest {w w' : World} {g k : Nat} {B : List Int} (h : Pg w g B) (hb : Rest k w w') (hg : g ≠ k) : Pg w' g B := ⟨by rw [hb.block g h.lt hg]; exact h.row⟩
theorem Pg.set {w : World} {g : Nat} {B : List Int} (h : Pg w g B) {i : Nat} {v : Int} : Pg (w.setCell ⟨g, i, none⟩ (.int .u8 v)) g (B.set i v) :=
  ⟨by simp [World.setCell, Array.getElem?_modify, h.row]⟩

/-- What reads as bytes does so still, where another block alone has turned. -/
theorem Rd.rest {k : IntKind} {g : Nat} {w w' : World} {ao : Option Addr} {n c : Nat} {xs : List Int} (h : Rd k w ao n c xs) (hb : Rest g w w') (hg : ∀ a, ao = some a → a.block ≠ g) : Rd k w' ao n c xs :=
  ⟨h.len, h.cap, h.max, h.non, fun hn => by
    obtain ⟨b, o, ha, hc⟩ := h.cells hn
    exact ⟨b, o, ha, fun i hi => hb.cell (hc i hi) (hg ⟨b, o, none⟩ ha)⟩⟩

theorem slotAt_any (s : Nat) (w : World) (hs : s ≤ 100) : Calls Try.prog 49 #[.int .i64 (s : Int)] w fun e w' => e = .returned (.int .i64 ((8 + 4 * s : Nat) : Int)) ∧ w' = w := by
  go_enter Try.func49, Try.ntmps49
  go_wp2
  go_ret
  exact ⟨ret_int (by omega), rfl⟩

theorem or_word {x y : Int} (hx : 0 ≤ x ∧ x ≤ 255) (hy : 0 ≤ y ∧ y ≤ 255) : bits BinOp.or IntKind.i64 (x * 256) y = 256 * x + y := by
  obtain ⟨a, rfl⟩ := Int.eq_ofNat_of_zero_le hx.1
  obtain ⟨b, rfl⟩ := Int.eq_ofNat_of_zero_le hy.1
  have e : ((a : Int) * 256) = ((a * 256 : Nat) : Int) := by omega
  rw [e]
  show IntKind.i64.wrap ((BitVec.ofInt 64 ((a * 256 : Nat) : Int) ||| BitVec.ofInt 64 (b : Int)).toNat : Int) = _
  have h := Nat.shiftLeft_add_eq_or_of_lt (i := 8) (b := b) (by omega) a
  rw [Nat.shiftLeft_eq] at h
  rw [BitVec.toNat_or, ofInt_u64 _ (by omega), ofInt_u64 _ (by omega), show a * 256 = a * 2 ^ 8 from rfl, ← h, IntKind.wrap_i64]
  omega

set_option maxRecDepth 100000 in
theorem word_any {g : Nat} {B : List Int} {w : World} (h : Pg w g B) (hB : B.length = 256) (hy : By B) (i : Nat) (hi : i + 1 < 256) :
    Calls Try.prog 66 #[.pointer (some ⟨g, 0, none⟩), .int .i64 (i : Int)] w fun e w' => e = .returned (.int .i64 (wd B i : Int)) ∧ Below w.heap.size w w' := by
  have c0 := h.cell (i := i) (by omega)
  have c1 := h.cell (i := i + 1) (by omega)
  have e := or_word (hy.nth i) (hy.nth (i + 1))
  obtain ⟨b0, b1⟩ := hy.nth i
  obtain ⟨b2, b3⟩ := hy.nth (i + 1)
  rw [wd_int hy]
  generalize nth B i = x at *
  generalize nth B (i + 1) = y at *
  replace e : Hid _ := e
  go_enter Try.func66, Try.ntmps66
  go_upto_region 1 with fail
  go_quiet (fail)
  go_wp2
  go_ret
  exact ⟨ret_int e.out, below_drewN (Below.refl _ _) _⟩

set_option maxRecDepth 100000 in
theorem setWord_any {g : Nat} {B : List Int} {w : World} (h : Pg w g B) (hB : B.length = 256) (i v : Nat) (hi : i + 1 < 256) (hv : v < 65536) :
    Calls Try.prog 67 #[.pointer (some ⟨g, 0, none⟩), .int .i64 (i : Int), .int .i64 (v : Int)] w fun e w' => e = .returned (.tuple #[]) ∧ Pg w' g (putW B i v) ∧ Rest g w w' := by
  have c0 := h.cell (i := i) (by omega)
  have c1 := h.cell (i := i + 1) (by omega)
  have f0 := h.frozen i
  have f1 := h.frozen (i + 1)
  go_enter Try.func67, Try.ntmps67
  go_upto_region 0 with fail
  go_region
  refine bodyPost_end (results_none rfl _ _ _) rfl ⟨rfl, ?_, ?_⟩
  · have := (h.set (i := i) (v := ((v / 256 : Nat) : Int))).set (i := i + 1) (v := ((v % 256 : Nat) : Int))
    exact this.drewN 1
  · exact ((Rest.set g i w _).trans (Rest.set g (i + 1) _ _)).drewN 1

theorem bthen {a b c : World} (h : Below a.heap.size a b) (k : Below b.heap.size b c) : Below a.heap.size a c := h.trans (k.mono h.size)

/-- A page that keeps those records, of which those of p lie where its slots say; its bytes. -/
structure Pi (w : World) (g : Nat) (B : List Int) (R : List (List Int)) (p : Nat → Prop) : Prop where
  pg : Pg w g B
  iv : Iv B R p
theorem Pi.later {w w' : World} {g : Nat} {B : List Int} {R : List (List Int)} {p : Nat → Prop} (h : Pi w g B R p) (hb : Below w.heap.size w w') : Pi w' g B R p := ⟨h.pg.later hb, h.iv⟩
theorem Pi.rest {w w' : World} {g k : Nat} {B : List Int} {R : List (List Int)} {p : Nat → Prop} (h : Pi w g B R p) (hb : Rest k w w') (hg : g ≠ k) : Pi w' g B R p := ⟨h.pg.rest hb hg, h.iv⟩
theorem Pi.drewN {w : World} {g : Nat} {B : List Int} {R : List (List Int)} {p : Nat → Prop} (h : Pi w g B R p) (n : Nat) : Pi (w.drewN n) g B R p := ⟨h.pg.drewN n, h.iv⟩

theorem many_any {w : World} {g : Nat} {B : List Int} {R : List (List Int)} {p : Nat → Prop} (h : Pi w g B R p) :
    Calls Try.prog 47 #[.pointer (some ⟨g, 0, none⟩)] w fun e w' => e = .returned (.int .i64 (R.length : Int)) ∧ Below w.heap.size w w' := by
  have H := word_any h.pg h.iv.len h.iv.bys 0 (by omega)
  rw [h.iv.mn] at H
  replace H : Hid _ := H
  go_enter Try.func47, Try.ntmps47
  go_wp2_with fail
  refine Calls.mono H.out ?_
  rintro e w1 ⟨rfl, hb⟩
  go_wp2
  go_ret
  exact ⟨rfl, hb⟩

theorem offset_any {w : World} {g : Nat} {B : List Int} {R : List (List Int)} {p : Nat → Prop} (h : Pi w g B R p) (s : Nat) (hs : s < R.length) :
    Calls Try.prog 60 #[.pointer (some ⟨g, 0, none⟩), .int .i64 (s : Int)] w fun e w' => e = .returned (.int .i64 (wd B (8 + 4 * s) : Int)) ∧ Below w.heap.size w w' := by
  have hf := h.iv.few
  have H : Hid _ := word_any h.pg h.iv.len h.iv.bys (8 + 4 * s) (by omega)
  have HS : Hid _ := slotAt_any s w (by omega)
  clear hf
  go_enter Try.func60, Try.ntmps60
  go_wp2_with fail
  refine Calls.mono HS.out ?_
  rintro e w1 ⟨rfl, rfl⟩
  go_wp2_with fail
  refine Calls.mono H.out ?_
  rintro e w1 ⟨rfl, hb⟩
  go_wp2
  go_ret
  exact ⟨rfl, hb⟩

theorem length_any {w : World} {g : Nat} {B : List Int} {R : List (List Int)} {p : Nat → Prop} (h : Pi w g B R p) (s : Nat) (hs : s < R.length) :
    Calls Try.prog 61 #[.pointer (some ⟨g, 0, none⟩), .int .i64 (s : Int)] w fun e w' => e = .returned (.int .i64 ((rc R s).length : Int)) ∧ Below w.heap.size w w' := by
  have hf := h.iv.few
  have hs2 : s ≤ 62 := by omega
  have H := word_any h.pg h.iv.len h.iv.bys (8 + 4 * s + 2) (by omega)
  rw [h.iv.ln s hs] at H
  have e : (((8 + 4 * s : Nat) : Int) + 2) = ((8 + 4 * s + 2 : Nat) : Int) := by omega
  rw [← e] at H
  have HS := slotAt_any s w (by omega)
  obtain ⟨q, hq⟩ : ∃ q : Int, ((8 + 4 * s : Nat) : Int) = q := ⟨_, rfl⟩
  have hq0 : 0 ≤ q := by omega
  have hq1 : q ≤ 1000 := by omega
  rw [hq] at H HS
  replace H : Hid _ := H
  replace HS : Hid _ := HS
  clear hf e hq
  go_enter Try.func61, Try.ntmps61
  go_wp2_with fail
  refine Calls.mono HS.out ?_
  rintro e w1 ⟨rfl, rfl⟩
  go_wp2_with fail
  refine Calls.mono H.out ?_
  rintro e w1 ⟨rfl, hb⟩
  go_wp2
  go_ret
  exact ⟨rfl, hb⟩

theorem setMany_any {w : World} {g : Nat} {B : List Int} (h : Pg w g B) (hB : B.length = 256) (v : Nat) (hv : v < 65536) :
    Calls Try.prog 51 #[.pointer (some ⟨g, 0, none⟩), .int .i64 (v : Int)] w fun e w' => e = .returned (.tuple #[]) ∧ Pg w' g (putW B 0 v) ∧ Rest g w w' := by
  have H : Hid _ := setWord_any h hB 0 v (by omega) hv
  go_enter Try.func51, Try.ntmps51
  go_wp2_with fail
  refine Calls.mono H.out ?_
  rintro e w1 ⟨rfl, h1, hb⟩
  go_wp2
  exact bodyPost_end (results_none rfl _ _ _) rfl ⟨rfl, h1, hb⟩

theorem setSlot_any {w : World} {g : Nat} {B : List Int} (h : Pg w g B) (hB : B.length = 256) (s o n : Nat) (hs : s ≤ 61) (ho : o < 65536) (hn : n < 65536) :
    Calls Try.prog 52 #[.pointer (some ⟨g, 0, none⟩), .int .i64 (s : Int), .int .i64 (o : Int), .int .i64 (n : Int)] w fun e w' => e = .returned (.tuple #[]) ∧ Pg w' g (putW (putW B (8 + 4 * s) o) (8 + 4 * s + 2) n) ∧ Rest g w w' := by
  have HS : Hid (∀ w, _) := fun w => slotAt_any s w (by omega)
  have H1 : Hid _ := setWord_any h hB (8 + 4 * s) o (by omega) ho
  have H2 : Hid (∀ w', Pg w' g (putW B (8 + 4 * s) o) → _) := fun w' h' => setWord_any h' (by rw [putW_len]; exact hB) (8 + 4 * s + 2) n (by omega) hn
  have e : ((8 + 4 * s + 2 : Nat) : Int) = (((8 + 4 * s : Nat) : Int) + 2) := by omega
  rw [e] at H2
  obtain ⟨q, hq⟩ : ∃ q : Int, ((8 + 4 * s : Nat) : Int) = q := ⟨_, rfl⟩
  have hq0 : 0 ≤ q := by omega
  have hq1 : q ≤ 1000 := by omega
  rw [hq] at H1 H2 HS
  clear hB ho hn e hq hs
  go_enter Try.func52, Try.ntmps52
  go_wp2_with fail
  refine Calls.mono (HS.out _) ?_
  rintro e w1 ⟨rfl, rfl⟩
  go_wp2_with fail
  refine Calls.mono H1.out ?_
  rintro e w1 ⟨rfl, h1, hb⟩
  go_wp2_with fail
  refine Calls.mono (HS.out _) ?_
  rintro e w1 ⟨rfl, rfl⟩
  go_wp2_with fail
  refine Calls.mono (H2.out _ h1) ?_
  rintro e w2 ⟨rfl, h2, hb2⟩
  go_wp2
  exact bodyPost_end (results_none rfl _ _ _) rfl ⟨rfl, h2, hb.trans hb2⟩

/-- Is there a record in that slot, which may be any number? -/
def hasZ (R : List (List Int)) (z : Int) : Bool := decide (0 ≤ z) && !(rc R z.toNat).isEmpty
theorem hasZ_nat (R : List (List Int)) (s : Nat) : hasZ R (s : Int) = !(rc R s).isEmpty := by simp [hasZ]

theorem has_any {w : World} {g : Nat} {B : List Int} {R : List (List Int)} {p : Nat → Prop} (h : Pi w g B R p) (z : Int) :
    Calls Try.prog 44 #[.pointer (some ⟨g, 0, none⟩), .int .i64 z] w fun e w' => e = .returned (.bool (hasZ R z)) ∧ Below w.heap.size w w' := by
  have HM : Hid _ := many_any h
  by_cases h0 : 0 ≤ z
  · obtain ⟨s, rfl⟩ := Int.eq_ofNat_of_zero_le h0
    rw [hasZ_nat]
    by_cases hs : s < R.length
    · have HL : Hid (∀ w', Below w.heap.size w w' → _) := fun w' hb => length_any (h.later hb) s hs
      have e : (!(rc R s).isEmpty) = decide ((0 : Int) < ((rc R s).length : Int)) := by
        cases rc R s <;> simp
      rw [e]
      obtain ⟨m, hm⟩ : ∃ m : Nat, (rc R s).length = m := ⟨_, rfl⟩
      rw [hm] at HL ⊢
      obtain ⟨n, hn⟩ : ∃ m : Nat, R.length = m := ⟨_, rfl⟩
      rw [hn] at HM hs
      have g1 : decide ((s : Int) < (n : Int)) = true := by simp; omega
      clear hm hn e h0
      go_enter Try.func44, Try.ntmps44
      go_wp2_with fail
      refine Calls.mono HM.out ?_
      rintro e w1 ⟨rfl, hb⟩
      go_wp2_with fail
      refine Calls.mono (HL.out _ hb) ?_
      rintro e w2 ⟨rfl, hb2⟩
      go_wp2
      go_ret
      exact ⟨by simp, bthen hb hb2⟩
    · have e : (!(rc R s).isEmpty) = false := by rw [rc_out (by omega)]; rfl
      rw [e]
      obtain ⟨n, hn⟩ : ∃ m : Nat, R.length = m := ⟨_, rfl⟩
      rw [hn] at HM hs
      have g1 : decide ((s : Int) < (n : Int)) = false := by simp; omega
      have g2 : ¬ (s : Int) < (n : Int) := by omega
      clear hn e h0 hs
      go_enter Try.func44, Try.ntmps44
      go_wp2_with fail
      refine Calls.mono HM.out ?_
      rintro e w1 ⟨rfl, hb⟩
      go_wp2
      go_ret
      exact ⟨by simp, hb⟩
  · have e : hasZ R z = false := by simp [hasZ, h0]
    rw [e]
    have g1 : decide ((0 : Int) ≤ z) = false := by simp; omega
    clear e
    go_enter Try.func44, Try.ntmps44
    go_wp2
    go_ret
    exact ⟨by simp, Below.refl _ _⟩

end Go.Proofs.Ytmfoenhbldacfaa
