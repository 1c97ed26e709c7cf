/- The reader in memory; the walks of lex's small functions. -/
import Derived.Test.YtjlmcnbmhgabpaaGreatL1
import Derived.Test.YtjlmcnbmhgabpaaGreatV2
import Derived.Lib.Bytealg
namespace Go.Proofs.YtjlmcnbmhgabpaaGreat
open Go.RowKit
set_option linter.unusedVariables false

/-- But for block g all that lay in w lies in w' as it did. -/
structure But (g : Nat) (w w' : World) : Prop where
  os : w'.os = w.os
  tape : w'.tape = w.tape
  output : w'.output = w.output
  size : w.heap.size ≤ w'.heap.size
  block : ∀ k, k < w.heap.size → k ≠ g → w'.heap[k]? = w.heap[k]?
theorem But.refl (g : Nat) (w : World) : But g w w := ⟨rfl, rfl, rfl, Nat.le_refl _, fun _ _ _ => rfl⟩
theorem But.trans {g : Nat} {a b c : World} (h : But g a b) (k : But g b c) : But g a c :=
  ⟨k.os.trans h.os, k.tape.trans h.tape, k.output.trans h.output, Nat.le_trans h.size k.size, fun i hi hg => (k.block i (Nat.lt_of_lt_of_le hi h.size) hg).trans (h.block i hi hg)⟩
theorem But.of {g : Nat} {w w' : World} (h : Below w.heap.size w w') : But g w w' := ⟨h.os, h.tape, h.output, h.size, fun k hk _ => h.block k hk⟩
theorem But.set (g o : Nat) (w : World) (v : Value) : But g w (w.setCell ⟨g, o, none⟩ v) := ⟨rfl, rfl, rfl, by simp [World.setCell], fun k _ hk => Below.heap_setCell _ _ _ _ hk⟩
theorem But.below {g B : Nat} {a w w' : World} (h : Below B a w) (k : But g w w') (hB : B ≤ g) (hw : B ≤ w.heap.size) : Below B a w' :=
  h.trans ⟨k.os, k.tape, k.output, k.size, fun i hi => k.block i (by omega) (by omega)⟩
theorem But.cell {g : Nat} {w w' : World} (h : But g w w') {a : Addr} {v : Value} (hc : w.cell? a = some v) (hg : a.block ≠ g) : w'.cell? a = some v :=
  (World.cell?_of_block (h.block a.block (World.block_lt_of_cell? _ _ hc) hg)).trans hc
theorem But.rdrew {g : Nat} {w w' : World} (h : But g w w') (n : Nat) : But g w (w'.drewN n) := ⟨h.os, h.tape, h.output, h.size, h.block⟩

/-- The reader lies in block g: its text is s, and k is to be read. -/
structure Rr (w : World) (g : Nat) (s : ByteArray) (k : Nat) : Prop where
  row : w.heap[g]? = some (.cells #[.string s, .int .i64 (k : Int)] 84 (0, 0))
theorem Rr.lt {w : World} {g : Nat} {s : ByteArray} {k : Nat} (h : Rr w g s k) : g < w.heap.size := (Array.getElem?_eq_some_iff.1 h.row).1
theorem Rr.c0 {w : World} {g : Nat} {s : ByteArray} {k : Nat} (h : Rr w g s k) : w.cell? ⟨g, 0, none⟩ = some (.string s) := by
  unfold World.cell?; rw [h.row]; rfl
theorem Rr.c1 {w : World} {g : Nat} {s : ByteArray} {k : Nat} (h : Rr w g s k) : w.cell? ⟨g, 1, none⟩ = some (.int .i64 k) := by
  unfold World.cell?; rw [h.row]; rfl
theorem Rr.f1 {w : World} {g : Nat} {s : ByteArray} {k : Nat} (h : Rr w g s k) : w.frozen? ⟨g, 1, none⟩ = false := by
  unfold World.frozen?; rw [h.row]; rfl
theorem Rr.later {w w' : World} {g : Nat} {s : ByteArray} {k : Nat} (h : Rr w g s k) (hb : Below w.heap.size w w') : Rr w' g s k := ⟨by rw [hb.block g h.lt]; exact h.row⟩
theorem Rr.drewN {w : World} {g : Nat} {s : ByteArray} {k : Nat} (h : Rr w g s k) (n : Nat) : Rr (w.drewN n) g s k := ⟨h.row⟩
theorem Rr.set {w : World} {g : Nat} {s : ByteArray} {k : Nat} (h : Rr w g s k) (m : Nat) : Rr (w.setCell ⟨g, 1, none⟩ (.int .i64 (m : Int))) g s m := ⟨by simp [World.setCell, Array.getElem?_modify, h.row]⟩

/-- What is to be read next, for a measure. -/
def rdAt (g : Nat) (w : World) : Nat := match w.cell? ⟨g, 1, none⟩ with | some (.int _ z) => z.toNat | _ => 0
theorem Rr.at {w : World} {g : Nat} {s : ByteArray} {k : Nat} (h : Rr w g s k) : rdAt g w = k := by rw [rdAt, h.c1]; simp

/-- A function value that answers p of a byte, whatever block g holds. -/
def Such (g : Nat) (p : UInt8 → Bool) (w : World) (v : Value) : Prop := ∃ N caps, v = .func (.func N) #[] caps ∧ (∀ args w', (callFunc N args).run Tryz.prog w' = .ok (.enter N args) w') ∧ ∀ (c : UInt8) (w' : World), But g w w' → Calls Tryz.prog N (#[.int .u8 (c.toNat : Int)] ++ caps) w' fun e w'' => e = .returned (.bool (p c)) ∧ w'' = w'
theorem Such.later {g : Nat} {p : UInt8 → Bool} {w w' : World} {v : Value} (h : Such g p w v) (hb : But g w w') : Such g p w' v := by
  obtain ⟨N, caps, e, hc, hN⟩ := h
  exact ⟨N, caps, e, hc, fun c w2 h2 => hN c w2 (hb.trans h2)⟩

set_option maxRecDepth 100000 in
theorem next_any {g : Nat} {s : ByteArray} {k : Nat} {p : UInt8 → Bool} {v : Value} {w : World} (h : Rr w g s k) (hs : s.size ≤ 500) (hk : k ≤ s.size) (hv : Such g p w v) :
    Calls Tryz.prog 70 #[.pointer (some ⟨g, 0, none⟩), v] w fun e w' => e = .returned (.bool (got p s k)) ∧ Below w.heap.size w w' := by
  obtain ⟨N, caps, rfl, hcf, hN⟩ := hv
  have c0 := h.c0
  have c1 := h.c1
  by_cases hlt : k < s.size
  · rw [got_at hlt]
    have H : Hid _ := fun n => hN s[k] (w.drewN n) ((But.refl g w).rdrew n)
    clear hN h
    go_enter Tryz.func70, Tryz.ntmps70
    go_wp2
    go_quiet (exact Calls.quiet_of_same (H.out _))
    go_wp2
    go_ret
    exact ⟨rfl, below_drewN (Below.refl _ _) _⟩
  · rw [got_end (by omega)]
    obtain rfl : k = s.size := by omega
    clear hN h hcf
    go_enter Tryz.func70, Tryz.ntmps70
    go_wp2
    go_quiet (fail)
    go_wp2
    go_ret
    exact ⟨rfl, below_drewN (Below.refl _ _) _⟩

set_option maxRecDepth 100000 in
theorem take_any {g : Nat} {s : ByteArray} {k : Nat} {p : UInt8 → Bool} {v : Value} {w : World} (h : Rr w g s k) (hs : s.size ≤ 500) (hk : k ≤ s.size) (hv : Such g p w v) :
    Calls Tryz.prog 104 #[.pointer (some ⟨g, 0, none⟩), v] w fun e w' => e = .returned (.bool (got p s k)) ∧ Rr w' g s (if got p s k then k + 1 else k) ∧ But g w w' := by
  have H := next_any h hs hk hv
  obtain ⟨N, caps, rfl, hcf, hN⟩ := hv
  cases hg : got p s k with
  | true =>
    rw [hg] at H
    rw [if_pos rfl]
    have hlt := got_lt hg
    replace H : Hid _ := H
    clear hg hN hcf
    go_enter Tryz.func104, Tryz.ntmps104
    go_wp2_with fail
    refine Calls.mono H.out ?_
    rintro e w1 ⟨rfl, hb⟩
    have h1 := h.later hb
    have c1 := h1.c1
    have f1 := h1.f1
    clear H
    go_wp2
    go_ret
    exact ⟨rfl, h1.set (k + 1), (But.of hb).trans (But.set _ _ _ _)⟩
  | false =>
    rw [hg] at H
    rw [if_neg (by simp)]
    replace H : Hid _ := H
    clear hg hN hcf
    go_enter Tryz.func104, Tryz.ntmps104
    go_wp2_with fail
    refine Calls.mono H.out ?_
    rintro e w1 ⟨rfl, hb⟩
    have h1 := h.later hb
    clear H
    go_wp2
    go_ret
    exact ⟨rfl, h1, But.of hb⟩

set_option maxRecDepth 100000 in
theorem skip_any {g : Nat} {s : ByteArray} {k : Nat} {p : UInt8 → Bool} {v : Value} {w : World} (h : Rr w g s k) (hs : s.size ≤ 500) (hk : k ≤ s.size) (hv : Such g p w v) :
    Calls Tryz.prog 68 #[.pointer (some ⟨g, 0, none⟩), v] w fun e w' => e = .returned (.tuple #[]) ∧ Rr w' g s (till p s k) ∧ But g w w' := by
  have HT : Hid (∀ (j : Nat) (w' : World), Rr w' g s j → j ≤ s.size → But g w w' → _) := fun j w' hr hj hb => take_any hr hs hj (hv.later hb)
  obtain ⟨N, caps, rfl, hcf, hN⟩ := hv
  clear hN hcf
  go_enter Tryz.func68, Tryz.ntmps68
  go_wp2
  go_loopw [] (fun wr => ∃ j, j ≤ s.size ∧ Rr wr g s j ∧ Hid (till p s k = till p s j) ∧ But g w wr) (fun wr => s.size - rdAt g wr)
  case atStart => exact ⟨k, hk, h, rfl, But.refl _ _⟩
  case round =>
    obtain ⟨j, hj, hr, HD, hb⟩ := hrel
    have H := HT.out j wr hr hj hb
    have hm := hr.at
    cases hg : got p s j with
    | true =>
      rw [hg, if_pos rfl] at H
      have HN : Hid _ := HD.out.trans (till_step hg)
      have hlt := got_lt hg
      replace H : Hid _ := H
      clear hg HD hr
      go_wp2_with fail
      refine Calls.mono H.out ?_
      rintro e w1 ⟨rfl, hr1, hb1⟩
      have hb2 := hb.trans hb1
      have hm1 := hr1.at
      clear H hb hb1
      go_wp2
      go_roundw
      case rel => exact ⟨j + 1, hlt, hr1, HN, hb2⟩
      case measure => omega
    | false =>
      rw [hg, if_neg (by simp)] at H
      have HN := HD.out.trans (till_stop hg)
      replace H : Hid _ := H
      replace HN : Hid _ := HN
      clear hg HD hr
      go_wp2_with fail
      refine Calls.mono H.out ?_
      rintro e w1 ⟨rfl, hr1, hb1⟩
      have hb2 := hb.trans hb1
      clear H hb hb1
      go_wp2
      exact bodyPost_end (results_none rfl _ _ _) rfl ⟨rfl, by rw [HN.out]; exact hr1, hb2⟩

theorem u8_eq {c : UInt8} {n : Nat} : decide (c.toNat = n) = decide ((c.toNat : Int) = (n : Int)) := by rw [Bool.eq_iff_iff]; simp; omega

theorem letter_any (c : UInt8) (w : World) : Calls Tryz.prog 71 #[.int .u8 (c.toNat : Int)] w fun e w' => e = .returned (.bool (isL c)) ∧ w' = w := by
  by_cases h1 : 97 ≤ c.toNat
  · have g1 : decide ((97 : Int) ≤ (c.toNat : Int)) = true := by simp; omega
    by_cases h2 : c.toNat ≤ 122
    · have g2 : decide ((c.toNat : Int) ≤ 122) = true := by simp; omega
      have e : isL c = true := by simp [isL, h1, h2]
      rw [e]
      go_enter Tryz.func71, Tryz.ntmps71
      go_wp2
      go_ret
      exact ⟨rfl, rfl⟩
    · have g2 : decide ((c.toNat : Int) ≤ 122) = false := by simp; omega
      have g3 : ((c.toNat : Int) == 95) = false := by simp; omega
      have e : isL c = false := by simp [isL]; omega
      rw [e]
      go_enter Tryz.func71, Tryz.ntmps71
      go_wp2
      go_ret
      exact ⟨rfl, rfl⟩
  · have g1 : decide ((97 : Int) ≤ (c.toNat : Int)) = false := by simp; omega
    have e : isL c = ((c.toNat : Int) == 95) := by simp [isL, h1]; rw [Bool.eq_iff_iff]; simp; omega
    rw [e]
    go_enter Tryz.func71, Tryz.ntmps71
    go_wp2
    go_ret
    exact ⟨rfl, rfl⟩
theorem digit_any (c : UInt8) (w : World) : Calls Tryz.prog 73 #[.int .u8 (c.toNat : Int)] w fun e w' => e = .returned (.bool (isDig c)) ∧ w' = w := by
  by_cases h1 : 48 ≤ c.toNat
  · have g1 : decide ((48 : Int) ≤ (c.toNat : Int)) = true := by simp; omega
    have e : isDig c = decide ((c.toNat : Int) ≤ 57) := by simp [isDig, h1]; omega
    rw [e]
    go_enter Tryz.func73, Tryz.ntmps73
    go_wp2
    go_ret
    exact ⟨rfl, rfl⟩
  · have g1 : decide ((48 : Int) ≤ (c.toNat : Int)) = false := by simp; omega
    have e : isDig c = false := by simp [isDig]; omega
    rw [e]
    go_enter Tryz.func73, Tryz.ntmps73
    go_wp2
    go_ret
    exact ⟨rfl, rfl⟩
theorem ofText_any (c : UInt8) (w : World) : Calls Tryz.prog 111 #[.int .u8 (c.toNat : Int)] w fun e w' => e = .returned (.bool (isT c)) ∧ w' = w := by
  by_cases h1 : 32 ≤ c.toNat
  · have g1 : decide ((32 : Int) ≤ (c.toNat : Int)) = true := by simp; omega
    have e : isT c = decide ((c.toNat : Int) ≤ 126) := by simp [isT, h1]; omega
    rw [e]
    go_enter Tryz.func111, Tryz.ntmps111
    go_wp2
    go_ret
    exact ⟨rfl, rfl⟩
  · have g1 : decide ((32 : Int) ≤ (c.toNat : Int)) = false := by simp; omega
    have e : isT c = false := by simp [isT]; omega
    rw [e]
    go_enter Tryz.func111, Tryz.ntmps111
    go_wp2
    go_ret
    exact ⟨rfl, rfl⟩
theorem ofName_any (c : UInt8) (w : World) : Calls Tryz.prog 106 #[.int .u8 (c.toNat : Int)] w fun e w' => e = .returned (.bool (isN c)) ∧ w' = w := by
  have HL := letter_any c w
  have HD := digit_any c w
  cases e : isL c with
  | true =>
    rw [show isN c = true from by rw [isN, e]; rfl]
    rw [e] at HL
    replace HL : Hid _ := HL
    clear e HD
    go_enter Tryz.func106, Tryz.ntmps106
    go_wp2_with fail
    refine Calls.mono HL.out ?_
    rintro e w1 ⟨rfl, rfl⟩
    go_wp2
    go_ret
    exact ⟨rfl, rfl⟩
  | false =>
    rw [show isN c = isDig c from by rw [isN, e]; rfl]
    rw [e] at HL
    replace HL : Hid _ := HL
    replace HD : Hid _ := HD
    clear e
    go_enter Tryz.func106, Tryz.ntmps106
    go_wp2_with fail
    refine Calls.mono HL.out ?_
    rintro e w1 ⟨rfl, rfl⟩
    go_wp2_with fail
    refine Calls.mono HD.out ?_
    rintro e w1 ⟨rfl, rfl⟩
    go_wp2
    go_ret
    exact ⟨rfl, rfl⟩

/-- The document's own. -/
theorem refLetter_any (c : UInt8) (w : World) : Calls Tryz.prog 63 #[.int .u8 (c.toNat : Int)] w fun e w' => e = .returned (.bool (isL c)) ∧ w' = w := by
  by_cases h1 : 97 ≤ c.toNat
  · have g1 : decide ((97 : Int) ≤ (c.toNat : Int)) = true := by simp; omega
    by_cases h2 : c.toNat ≤ 122
    · have g2 : decide ((c.toNat : Int) ≤ 122) = true := by simp; omega
      have e : isL c = true := by simp [isL, h1, h2]
      rw [e]
      go_enter Tryz.func63, Tryz.ntmps63
      go_wp2
      go_ret
      exact ⟨rfl, rfl⟩
    · have g2 : decide ((c.toNat : Int) ≤ 122) = false := by simp; omega
      have g3 : ((c.toNat : Int) == 95) = false := by simp; omega
      have e : isL c = false := by simp [isL]; omega
      rw [e]
      go_enter Tryz.func63, Tryz.ntmps63
      go_wp2
      go_ret
      exact ⟨rfl, rfl⟩
  · have g1 : decide ((97 : Int) ≤ (c.toNat : Int)) = false := by simp; omega
    have e : isL c = ((c.toNat : Int) == 95) := by simp [isL, h1]; rw [Bool.eq_iff_iff]; simp; omega
    rw [e]
    go_enter Tryz.func63, Tryz.ntmps63
    go_wp2
    go_ret
    exact ⟨rfl, rfl⟩
theorem refDigit_any (c : UInt8) (w : World) : Calls Tryz.prog 64 #[.int .u8 (c.toNat : Int)] w fun e w' => e = .returned (.bool (isDig c)) ∧ w' = w := by
  by_cases h1 : 48 ≤ c.toNat
  · have g1 : decide ((48 : Int) ≤ (c.toNat : Int)) = true := by simp; omega
    have e : isDig c = decide ((c.toNat : Int) ≤ 57) := by simp [isDig, h1]; omega
    rw [e]
    go_enter Tryz.func64, Tryz.ntmps64
    go_wp2
    go_ret
    exact ⟨rfl, rfl⟩
  · have g1 : decide ((48 : Int) ≤ (c.toNat : Int)) = false := by simp; omega
    have e : isDig c = false := by simp [isDig]; omega
    rw [e]
    go_enter Tryz.func64, Tryz.ntmps64
    go_wp2
    go_ret
    exact ⟨rfl, rfl⟩

theorem isO_index (c : UInt8) : decide ((0 : Int) ≤ Lib.indexByte [40, 41, 44, 46, 61, 43, 45, 42] c) = isO c := by
  have gen : ∀ l : List UInt8, decide ((0 : Int) ≤ Lib.indexByte l c) = l.contains c := by
    intro l
    induction l with
    | nil => rfl
    | cons x l ih =>
      rw [Lib.indexByte, List.contains_cons]
      have hge := Lib.indexByte_ge l c
      cases h : (x == c) with
      | true =>
        have : (c == x) = true := by rw [beq_iff_eq] at h ⊢; exact h.symm
        simp [this]
      | false =>
        have h' : (c == x) = false := by rw [beq_eq_false_iff_ne] at h ⊢; exact fun e => h e.symm
        rw [h', Bool.false_or, ← ih]
        simp only [Bool.false_eq_true, if_false]
        cases h2 : (Lib.indexByte l c == -1) with
        | true =>
          have : Lib.indexByte l c = -1 := by simpa using h2
          simp [this]
        | false =>
          have : Lib.indexByte l c ≠ -1 := by simpa using h2
          simp only [Bool.false_eq_true, if_false]
          rw [Bool.eq_iff_iff]; simp; omega
  exact gen _
set_option maxRecDepth 100000 in
theorem index_any (s : ByteArray) (c : UInt8) (w : World) : Calls Tryz.prog 136 #[.string s, .int .u8 (c.toNat : Int)] w fun e w' => e = .returned (.int .i64 (Lib.indexByte s.data.toList c)) ∧ w' = w := by
  go_enter Tryz.func136, Tryz.ntmps136
  go_wp2
  rw [run_callFunc_extern Tryz.func144 (by kernel_rfl) (by kernel_rfl) (by kernel_rfl) (e := Extern.BytealgIndexByte.indexByte) (by kernel_rfl), Lib.run_indexByteString]
  simp only [Result.andThen]
  rw [Oper.upon_value]
  go_wp2
  go_ret
  exact ⟨by simp, rfl⟩
theorem indexByte_any (s : ByteArray) (c : UInt8) (w : World) : Calls Tryz.prog 127 #[.string s, .int .u8 (c.toNat : Int)] w fun e w' => e = .returned (.int .i64 (Lib.indexByte s.data.toList c)) ∧ w' = w := by
  have H : Hid _ := index_any s c w
  go_enter Tryz.func127, Tryz.ntmps127
  go_wp2_with fail
  refine Calls.mono H.out ?_
  rintro e w1 ⟨rfl, rfl⟩
  go_wp2
  go_ret
  exact ⟨rfl, rfl⟩
theorem lone_any (c : UInt8) (w : World) : Calls Tryz.prog 113 #[.int .u8 (c.toNat : Int)] w fun e w' => e = .returned (.bool (isO c)) ∧ w' = w := by
  have H := indexByte_any ⟨#[40, 41, 44, 46, 61, 43, 45, 42]⟩ c w
  have e := isO_index c
  rw [← e]
  rw [show (⟨#[40, 41, 44, 46, 61, 43, 45, 42]⟩ : ByteArray).data.toList = [40, 41, 44, 46, 61, 43, 45, 42] from rfl] at H
  generalize Lib.indexByte [40, 41, 44, 46, 61, 43, 45, 42] c = z at *
  clear e
  replace H : Hid _ := H
  go_enter Tryz.func113, Tryz.ntmps113
  go_wp2_with fail
  refine Calls.mono H.out ?_
  rintro e w1 ⟨rfl, rfl⟩
  go_wp2
  go_ret
  exact ⟨rfl, rfl⟩

theorem is1_any (c : UInt8) (n b : Nat) (w : World) (h : w.cell? ⟨b, 0, none⟩ = some (.int .u8 (n : Int))) : Calls Tryz.prog 105 #[.int .u8 (c.toNat : Int), .pointer (some ⟨b, 0, none⟩)] w fun e w' => e = .returned (.bool (isB n c)) ∧ w' = w := by
  have e : isB n c = ((c.toNat : Int) == (n : Int)) := by rw [isB, Bool.eq_iff_iff]; simp; omega
  rw [e]
  clear e
  go_enter Tryz.func105, Tryz.ntmps105
  go_wp2
  go_ret
  exact ⟨rfl, rfl⟩
theorem two1_any (c : UInt8) (n m b d : Nat) (w : World) (h : w.cell? ⟨b, 0, none⟩ = some (.int .u8 (n : Int))) (k : w.cell? ⟨d, 0, none⟩ = some (.int .u8 (m : Int))) : Calls Tryz.prog 126 #[.int .u8 (c.toNat : Int), .pointer (some ⟨b, 0, none⟩), .pointer (some ⟨d, 0, none⟩)] w fun e w' => e = .returned (.bool (is2 n m c)) ∧ w' = w := by
  by_cases h1 : c.toNat = n
  · have g1 : ((c.toNat : Int) == (n : Int)) = true := by simp; omega
    have e : is2 n m c = true := by simp [is2, h1]
    rw [e]
    clear e h1
    go_enter Tryz.func126, Tryz.ntmps126
    go_wp2
    go_ret
    exact ⟨rfl, rfl⟩
  · have g1 : ((c.toNat : Int) == (n : Int)) = false := by simp; omega
    have e : is2 n m c = ((c.toNat : Int) == (m : Int)) := by rw [is2, Bool.eq_iff_iff]; simp [h1]; omega
    rw [e]
    clear e h1
    go_enter Tryz.func126, Tryz.ntmps126
    go_wp2
    go_ret
    exact ⟨rfl, rfl⟩

theorem such_of {g N : Nat} {p : UInt8 → Bool} {w : World} (hc : ∀ args w', (callFunc N args).run Tryz.prog w' = .ok (.enter N args) w') (h : ∀ (c : UInt8) (w : World), Calls Tryz.prog N #[.int .u8 (c.toNat : Int)] w fun e w' => e = .returned (.bool (p c)) ∧ w' = w) : Such g p w (.func (.func N) #[] #[]) :=
  ⟨N, #[], rfl, hc, fun c w' _ => h c w'⟩
theorem such_letter (g : Nat) (w : World) : Such g isL w (.func (.func 71) #[] #[]) := such_of (fun _ _ => by kernel_rfl) letter_any
theorem such_digit (g : Nat) (w : World) : Such g isDig w (.func (.func 73) #[] #[]) := such_of (fun _ _ => by kernel_rfl) digit_any
theorem such_name (g : Nat) (w : World) : Such g isN w (.func (.func 106) #[] #[]) := such_of (fun _ _ => by kernel_rfl) ofName_any
theorem such_text (g : Nat) (w : World) : Such g isT w (.func (.func 111) #[] #[]) := such_of (fun _ _ => by kernel_rfl) ofText_any
theorem such_lone (g : Nat) (w : World) : Such g isO w (.func (.func 113) #[] #[]) := such_of (fun _ _ => by kernel_rfl) lone_any

theorem is_any (n : Nat) (w : World) : Calls Tryz.prog 69 #[.int .u8 (n : Int)] w fun e w' => ∃ v, e = .returned v ∧ (∀ g, g < w.heap.size → Such g (isB n) w' v) ∧ Below w.heap.size w w' := by
  have hmf : ∀ (fn : Fn) (first cap : Array Value) (w : World), (Instr.makeFunc fn first cap).run Tryz.prog w = .ok (.func fn first cap) w := fun _ _ _ _ => rfl
  go_enter Tryz.func69, Tryz.ntmps69
  go_wp2
  go_ret
  refine ⟨_, rfl, fun g hg => ⟨105, #[.pointer (some ⟨w.heap.size, 0, none⟩)], rfl, fun _ _ => by kernel_rfl, fun c w' hb => is1_any c n w.heap.size w' (hb.cell (by simp [go_sem]) (by simp; omega))⟩, (Below.refl _ _).alloc (Nat.le_refl _) _⟩
theorem ofTwo_any (n m : Nat) (w : World) : Calls Tryz.prog 112 #[.int .u8 (n : Int), .int .u8 (m : Int)] w fun e w' => ∃ v, e = .returned v ∧ (∀ g, g < w.heap.size → Such g (is2 n m) w' v) ∧ Below w.heap.size w w' := by
  have hmf : ∀ (fn : Fn) (first cap : Array Value) (w : World), (Instr.makeFunc fn first cap).run Tryz.prog w = .ok (.func fn first cap) w := fun _ _ _ _ => rfl
  go_enter Tryz.func112, Tryz.ntmps112
  go_wp2
  go_ret
  refine ⟨_, rfl, fun g hg => ⟨126, #[.pointer (some ⟨w.heap.size, 0, none⟩), .pointer (some ⟨w.heap.size + 1, 0, none⟩)], rfl, fun _ _ => by kernel_rfl, fun c w' hb => two1_any c n m w.heap.size (w.heap.size + 1) w' (hb.cell (by simp [go_sem]) (by simp; omega)) (hb.cell (by simp [go_sem]) (by simp; omega))⟩, ((Below.refl _ _).alloc (Nat.le_refl _) _).alloc (by simp) _⟩

end Go.Proofs.YtjlmcnbmhgabpaaGreat
