import Derived.Test.YtnboooaockgoiaaGreatDoorPab
import Derived.Test.YtnboooaockgoiaaGreatDoorPaa
namespace Go.Proofs.YtnboooaockgoiaaGreatDoor
open Go.RowKit
set_option linter.unusedVariables false

def sl : List UInt8 := [40, 41, 44, 46, 61, 60, 62, 43, 45, 42]
def two2 (a b : UInt8) : Bool := (decide (a.toNat = 60) && (decide (b.toNat = 62) || decide (b.toNat = 61))) || (decide (a.toNat = 62) && decide (b.toNat = 61))
theorem cont_step {l : List UInt8} {k : Nat} {a d : UInt8} (hk : k < l.length) : (l.take (k + 1)).contains a = ((l.take k).contains a || decide (l.getD k d = a)) := by
  rw [List.take_add_one, List.getElem?_eq_getElem hk, List.getD, List.getElem?_eq_getElem hk, Bool.eq_iff_iff]
  simp only [List.contains_iff_mem, List.mem_append, Bool.or_eq_true, decide_eq_true_eq, Option.toList_some, List.mem_singleton, Option.getD_some]
  exact or_congr Iff.rfl ⟨Eq.symm, Eq.symm⟩
set_option maxRecDepth 100000 in
theorem sl_index (k : Nat) (hk : k < 10) (w : World) : (Instr.index 9 (.string ⟨#[40, 41, 44, 46, 61, 60, 62, 43, 45, 42]⟩) (.int .i64 (k : Int))).run Tryz.prog w = .ok (.int .u8 ((sl.getD k 0).toNat : Int)) w := by
  match k, hk with
  | 0, _ => rfl
  | 1, _ => rfl
  | 2, _ => rfl
  | 3, _ => rfl
  | 4, _ => rfl
  | 5, _ => rfl
  | 6, _ => rfl
  | 7, _ => rfl
  | 8, _ => rfl
  | 9, _ => rfl
theorem word_end {s : ByteArray} : wordW s s.size = wrd (6, ⟨#[]⟩, 0, s.size) s.size := by
  rw [wordW, till_stop (got_end (Nat.le_refl _)), endW, if_pos rfl]
theorem cat_lists (l m : List UInt8) : (⟨l.toArray⟩ : ByteArray) ++ ⟨m.toArray⟩ = ⟨(l ++ m).toArray⟩ := by
  apply ByteArray.ext
  simp [ByteArray.data_append]
theorem str_index (s : ByteArray) (r : Nat) (h : r < s.size) (w : World) : (Instr.index 9 (.string s) (.int .i64 (r : Int))).run Tryz.prog w = .ok (.int .u8 (s[r].toNat : Int)) w := by go_simp
theorem sz_mk (l : List UInt8) : (⟨l.toArray⟩ : ByteArray).size = l.length := by show l.toArray.size = _; rw [List.size_toArray]

end Go.Proofs.YtnboooaockgoiaaGreatDoor

/- The walk of the document's letters. -/
namespace Go.Proofs.YtnboooaockgoiaaGreatDoor
open Go.RowKit
set_option linter.unusedVariables false

/-- A word that lies in block r. -/
structure Tb (w : World) (r : Nat) (t : Tk) : Prop where
  row : w.heap[r]? = some (.cells #[.int .i64 t.1, .string t.2.1, .int .i64 t.2.2.1, .int .i64 t.2.2.2] 91 (0, 0))
theorem Tb.lt {w : World} {r : Nat} {t : Tk} (h : Tb w r t) : r < w.heap.size := (Array.getElem?_eq_some_iff.1 h.row).1
theorem Tb.new (w : World) (t : Tk) : Tb (w.alloc (.cells #[.int .i64 t.1, .string t.2.1, .int .i64 t.2.2.1, .int .i64 t.2.2.2] 91)) w.heap.size t := ⟨heap_alloc_new w _⟩
theorem Tb.cells {w : World} {r : Nat} {t : Tk} (h : Tb w r t) : w.cell? ⟨r, 0, none⟩ = some (.int .i64 t.1) ∧ w.cell? ⟨r, 1, none⟩ = some (.string t.2.1) ∧ w.cell? ⟨r, 2, none⟩ = some (.int .i64 t.2.2.1) ∧ w.cell? ⟨r, 3, none⟩ = some (.int .i64 t.2.2.2) := by
  unfold World.cell?; rw [h.row]; exact ⟨rfl, rfl, rfl, rfl⟩
theorem Tb.free {w : World} {r : Nat} {t : Tk} (h : Tb w r t) : w.frozen? ⟨r, 0, none⟩ = false ∧ w.frozen? ⟨r, 1, none⟩ = false ∧ w.frozen? ⟨r, 2, none⟩ = false ∧ w.frozen? ⟨r, 3, none⟩ = false := by
  unfold World.frozen?; rw [h.row]; exact ⟨rfl, rfl, rfl, rfl⟩
theorem Tb.later {w w' : World} {r : Nat} {t : Tk} (h : Tb w r t) (hb : Below w.heap.size w w') : Tb w' r t := ⟨by rw [hb.block r h.lt]; exact h.row⟩
theorem Tb.drewN {w : World} {r : Nat} {t : Tk} (h : Tb w r t) (n : Nat) : Tb (w.drewN n) r t := ⟨h.row⟩
theorem Tb.drew {w : World} {r : Nat} {t : Tk} (h : Tb w r t) : Tb w.drew r t := ⟨h.row⟩
theorem Tb.text {w : World} {r : Nat} {t : Tk} (h : Tb w r t) (s : ByteArray) : Tb (w.setCell ⟨r, 1, none⟩ (.string s)) r (t.1, s, t.2.2.1, t.2.2.2) := ⟨by simp [World.setCell, Array.getElem?_modify, h.row]⟩
theorem Zr.other {w : World} {r q : Nat} (h : Zr w r) (hr : r ≠ q) (o : Nat) (v : Value) : Zr (w.setCell ⟨q, o, none⟩ v) r := ⟨by rw [Below.heap_setCell _ _ _ _ hr]; exact h.row⟩
theorem Zr.drew {w : World} {r : Nat} (h : Zr w r) : Zr w.drew r := ⟨h.row⟩
theorem Zr.drewN {w : World} {r : Nat} (h : Zr w r) (n : Nat) : Zr (w.drewN n) r := ⟨h.row⟩
theorem below4 {w w' : World} (h : Below w.heap.size w w') (a b c d : Value) : Below w.heap.size w ((((w'.setCell ⟨w.heap.size, 0, none⟩ a).setCell ⟨w.heap.size, 1, none⟩ b).setCell ⟨w.heap.size, 2, none⟩ c).setCell ⟨w.heap.size, 3, none⟩ d) :=
  (((h.setCell (Nat.le_refl _) a).setCell (Nat.le_refl _) b).setCell (Nat.le_refl _) c).setCell (Nat.le_refl _) d

/-- What the document's one tells. -/
def Ones (W : Wr) (e : Ending) : Prop := ∃ (t : Tk) (x b : Int), e = .returned (.tuple #[tkA t, .int .i64 x, .int .i64 b, .int .i64 W.er]) ∧ (W.er = 0 → t = W.tk ∧ x = W.nx) ∧ (W.er ≠ 0 → b = W.pl)
theorem ones_ok (t : Tk) (x : Nat) (b : Int) : Ones (wrd t x) (.returned (.tuple #[tkA t, .int .i64 x, .int .i64 b, .int .i64 0])) := ⟨t, x, b, rfl, fun _ => ⟨rfl, rfl⟩, fun h => absurd rfl h⟩
theorem ones_flt (t : Tk) (x : Int) (b : Nat) (e : Int) (he : e ≠ 0) : Ones (flt b e) (.returned (.tuple #[tkA t, .int .i64 x, .int .i64 b, .int .i64 e])) := ⟨t, x, b, rfl, fun h => absurd h he, fun _ => rfl⟩

theorem str_slice' (s : ByteArray) (hs : s.size ≤ 400) (k : Nat) (h : k < s.size) (w : World) : (Instr.slice 9 (.string s) (some (.int .i64 (k : Int))) (some (.int .i64 ((k : Int) + 1))) none).run Tryz.prog w = .ok (.string ⟨#[s[k]]⟩) w := by
  have e : s.extract k (k + 1) = ⟨#[s[k]]⟩ := by
    apply ByteArray.ext
    apply Array.toList_inj.1
    have := bs_extract s k (k + 1)
    rw [bs, Nat.add_sub_cancel_left, drop_at h] at this
    exact this
  rw [← e]
  obtain ⟨m, hm⟩ : ∃ m, m = k + 1 := ⟨_, rfl⟩
  have hm2 : (k : Int) + 1 = (m : Int) := by omega
  rw [hm2, ← hm]
  have h1 : k ≤ m := by omega
  have h2 : m ≤ s.size := by omega
  clear hm hm2 e h
  go_simp

set_option maxRecDepth 100000 in
set_option maxHeartbeats 2000000 in
theorem letters_any (s : ByteArray) (hs : s.size ≤ 400) (j : Nat) (hj : j < s.size) (w : World) : Calls Tryz.prog 101 #[.string s, .int .i64 (j : Int)] w fun e w' => Ones (quoW s j) e ∧ Below w.heap.size w w' := by
  have H1 := hid (fun k l (q : Qv s j k l) => q.close)
  have H2 := hid (fun k l (q : Qv s j k l) => q.bad)
  have HQ := hid (Qv.start s j)
  have hwj : IntKind.i64.wrap ((j : Int) + 1) = j + 1 := by rw [IntKind.wrap_i64]; omega
  generalize quoW s j = RR at *
  go_enter Tryz.func101, Tryz.ntmps101
  go_wp2
  go_loopw [9] (fun i wr => ∃ (k : Nat) (l : List UInt8), j + 1 ≤ k ∧ k ≤ s.size ∧ l.length ≤ k ∧ i = .int .i64 k ∧ Hid (Qv s j k l) ∧ Zr wr w.heap.size ∧ Tb wr (w.heap.size + 1) (4, ⟨l.toArray⟩, 0, j) ∧ Below w.heap.size w wr) (fun i _ => s.size - (intOf i).toNat)
  case atStart =>
    have hA := (Below.refl w.heap.size w).alloc (Nat.le_refl _) (.cells #[.int .i64 0, .string ⟨#[]⟩, .int .i64 0, .int .i64 0] 91)
    refine ⟨j + 1, [], Nat.le_refl _, hj, Nat.zero_le _, by go_num, HQ, (Zr.new w).later ((Below.refl _ _).alloc (Nat.le_refl _) _), ?_, hA.alloc (by simp) _⟩
    have := Tb.new (w.alloc (.cells #[.int .i64 0, .string ⟨#[]⟩, .int .i64 0, .int .i64 0] 91)) (4, ⟨#[]⟩, 0, (j : Int))
    simpa using this
  case round =>
    obtain ⟨k, l, hk1, hk, hl, rfl, HD, z, tb, hB⟩ := hrel
    obtain ⟨c0, c1, c2, c3⟩ := z.cells
    obtain ⟨f0, f1, f2, f3⟩ := z.free
    obtain ⟨d0, d1, d2, d3⟩ := tb.cells
    obtain ⟨e0, e1, e2, e3⟩ := tb.free
    by_cases hlt : k < s.size
    · by_cases h32 : s[k].toNat < 32 ∨ 126 < s[k].toNat
      · have hR := H2.out k l HD.out (by rw [got_at hlt]; simp [isB]; omega) (by rw [got_at hlt]; simp [isT]; omega)
        subst hR
        clear H1 H2 HQ HD
        by_cases h32' : s[k].toNat < 32
        · have g1 : decide ((s[k].toNat : Int) < 32) = true := by simp; omega
          clear h32 h32'
          go_wp2
          all_goals refine bodyPost_ret (v := .tuple #[tkA (4, ⟨l.toArray⟩, 0, j), .int .i64 0, .int .i64 k, .int .i64 4]) (by simp [results, Tryz.results101, go_sem, c0, c1, c2, c3, tkA]) rfl ⟨ones_flt _ _ _ _ (by decide), below4 hB _ _ _ _⟩
        · have g1 : decide ((s[k].toNat : Int) < 32) = false := by simp; omega
          have g2 : decide (126 < (s[k].toNat : Int)) = true := by simp; omega
          clear h32 h32'
          go_wp2
          all_goals refine bodyPost_ret (v := .tuple #[tkA (4, ⟨l.toArray⟩, 0, j), .int .i64 0, .int .i64 k, .int .i64 4]) (by simp [results, Tryz.results101, go_sem, c0, c1, c2, c3, tkA]) rfl ⟨ones_flt _ _ _ _ (by decide), below4 hB _ _ _ _⟩
      · have g1 : decide ((s[k].toNat : Int) < 32) = false := by simp; omega
        have g2 : decide (126 < (s[k].toNat : Int)) = false := by simp; omega
        have hT : got isT s k = true := by rw [got_at hlt]; simp [isT]; omega
        by_cases h39 : s[k].toNat = 39
        · have g3 : ((s[k].toNat : Int) == 39) = true := by simp; omega
          have hG : got (isB 39) s k = true := by rw [got_at hlt]; simp [isB, h39]
          obtain ⟨m, hm⟩ : ∃ m, m = k + 1 := ⟨_, rfl⟩
          have hm2 : ((k : Int) + 1) = (m : Int) := by omega
          by_cases h2 : got (isB 39) s m = true
          · have hlt2 := got_lt h2
            have g4 : ((s[m].toNat : Int) == 39) = true := by
              rw [got_at hlt2, isB, decide_eq_true_iff] at h2
              simp; omega
            have HN := hid (HD.out.two' hm hlt2 hG h2)
            have hx39 : s[m] = 39 := by
              rw [got_at hlt2, isB, decide_eq_true_iff] at h2
              exact UInt8.toNat_inj.1 h2
            rw [hx39] at HN
            have hcat : (⟨l.toArray⟩ : ByteArray) ++ ⟨#[39]⟩ = ⟨(l ++ [39]).toArray⟩ := cat_lists l [39]
            have hz : (⟨l.toArray⟩ : ByteArray).size ≤ 400 := by rw [sz_mk]; omega
            have hix := str_index s m hlt2
            have hml : l.length ≤ m := by omega
            have hkm : k < m := by omega
            generalize hS1 : (⟨l.toArray⟩ : ByteArray) = S1 at *
            generalize hS2 : (⟨(l ++ [39]).toArray⟩ : ByteArray) = S2 at *
            replace hS1 := hid hS1
            replace hS2 := hid hS2
            have hwm : IntKind.i64.wrap (m : Int) = m := by rw [IntKind.wrap_i64]; omega
            replace hm := hid hm
            clear H1 H2 HQ HD hG h2 h39 hT hx39 h32
            go_wp2
            go_roundw
            case rel =>
              have t2 := tb.text S2
              exact ⟨m + 1, l ++ [39], by omega, by omega, by simp; omega, by go_num, HN, z.other (by omega) _ _, by rw [hS2.out]; exact t2, hB.setCell (by show w.heap.size ≤ w.heap.size + 1; omega) _⟩
            case measure => simp only [intOf]; omega
          · have hF : got (isB 39) s m = false := by simpa using h2
            have hR := H1.out k l HD.out hG (by rw [← hm]; exact hF)
            rw [← hm] at hR
            have hz := sz_mk l
            have hwm : IntKind.i64.wrap (m : Int) = m := by rw [IntKind.wrap_i64]; omega
            replace hm := hid hm
            by_cases hml : m < s.size
            · have g4 : ((s[m].toNat : Int) == 39) = false := by
                rw [got_at hml, isB, decide_eq_false_iff_not] at hF
                simp; omega
              have hix := str_index s m hml
              clear H1 H2 HQ HD hG h2 h39 hT h32 hF
              by_cases h30 : 30 < l.length
              · rw [if_pos h30] at hR
                subst hR
                have g6 : decide ((30 : Int) < ((⟨l.toArray⟩ : ByteArray).size : Int)) = true := by rw [hz]; simp; omega
                generalize hS1 : (⟨l.toArray⟩ : ByteArray) = S1 at *
                replace hS1 := hid hS1
                clear hz
                go_wp2
                all_goals refine bodyPost_ret (v := .tuple #[tkA (4, S1, 0, j), .int .i64 0, .int .i64 j, .int .i64 7]) (by simp [results, Tryz.results101, go_sem, c0, c1, c2, c3, tkA]) rfl ⟨ones_flt _ _ _ _ (by decide), below4 hB _ _ _ _⟩
              · rw [if_neg h30] at hR
                subst hR
                have g6 : decide ((30 : Int) < ((⟨l.toArray⟩ : ByteArray).size : Int)) = false := by rw [hz]; simp; omega
                generalize hS1 : (⟨l.toArray⟩ : ByteArray) = S1 at *
                replace hS1 := hid hS1
                clear hz
                go_wp2
                all_goals refine bodyPost_ret (v := .tuple #[tkA (4, S1, 0, j), .int .i64 m, .int .i64 0, .int .i64 0]) (by simp [results, Tryz.results101, go_sem, c0, c1, c2, c3, tkA]) rfl ⟨by rw [hS1.out]; exact ones_ok _ _ _, below4 hB _ _ _ _⟩
            · have g5 : decide ((m : Int) < (s.size : Int)) = false := by simp; omega
              clear H1 H2 HQ HD hG h2 h39 hT h32 hF
              by_cases h30 : 30 < l.length
              · rw [if_pos h30] at hR
                subst hR
                have g6 : decide ((30 : Int) < ((⟨l.toArray⟩ : ByteArray).size : Int)) = true := by rw [hz]; simp; omega
                generalize hS1 : (⟨l.toArray⟩ : ByteArray) = S1 at *
                replace hS1 := hid hS1
                clear hz
                go_wp2
                all_goals refine bodyPost_ret (v := .tuple #[tkA (4, S1, 0, j), .int .i64 0, .int .i64 j, .int .i64 7]) (by simp [results, Tryz.results101, go_sem, c0, c1, c2, c3, tkA]) rfl ⟨ones_flt _ _ _ _ (by decide), below4 hB _ _ _ _⟩
              · rw [if_neg h30] at hR
                subst hR
                have g6 : decide ((30 : Int) < ((⟨l.toArray⟩ : ByteArray).size : Int)) = false := by rw [hz]; simp; omega
                generalize hS1 : (⟨l.toArray⟩ : ByteArray) = S1 at *
                replace hS1 := hid hS1
                clear hz
                go_wp2
                all_goals refine bodyPost_ret (v := .tuple #[tkA (4, S1, 0, j), .int .i64 m, .int .i64 0, .int .i64 0]) (by simp [results, Tryz.results101, go_sem, c0, c1, c2, c3, tkA]) rfl ⟨by rw [hS1.out]; exact ones_ok _ _ _, below4 hB _ _ _ _⟩
        · have g3 : ((s[k].toNat : Int) == 39) = false := by simp; omega
          have hG : got (isB 39) s k = false := by rw [got_at hlt]; simp [isB, h39]
          have HN := hid (HD.out.txt hlt hG hT)
          have hsl := str_slice' s hs k hlt
          have hcat : (⟨l.toArray⟩ : ByteArray) ++ ⟨#[s[k]]⟩ = ⟨(l ++ [s[k]]).toArray⟩ := cat_lists l [s[k]]
          have hz : (⟨l.toArray⟩ : ByteArray).size ≤ 400 := by rw [sz_mk]; omega
          generalize hS1 : (⟨l.toArray⟩ : ByteArray) = S1 at *
          generalize hS2 : (⟨(l ++ [s[k]]).toArray⟩ : ByteArray) = S2 at *
          replace hS1 := hid hS1
          replace hS2 := hid hS2
          clear H1 H2 HQ HD hG h39 hT h32
          go_wp2
          go_region
          all_goals
            go_wp2
            go_roundw
          case rel =>
            have t2 := (tb.text S2).drew
            exact ⟨k + 1, l ++ [s[k]], by omega, by omega, by simp; omega, by go_num, HN, (z.other (by omega) _ _).drew, by rw [hS2.out]; exact t2, (hB.setCell (by show w.heap.size ≤ w.heap.size + 1; omega) _).drew⟩
          case measure => simp only [intOf]; omega
    · obtain rfl : k = s.size := by omega
      have hR := H2.out s.size l HD.out (got_end (Nat.le_refl _)) (got_end (Nat.le_refl _))
      subst hR
      clear H1 H2 HQ HD
      go_wp2
      all_goals refine bodyPost_ret (v := .tuple #[tkA (4, ⟨l.toArray⟩, 0, j), .int .i64 0, .int .i64 (s.size : Int), .int .i64 4]) (by simp [results, Tryz.results101, go_sem, c0, c1, c2, c3, tkA]) rfl ⟨ones_flt _ _ _ _ (by decide), below4 hB _ _ _ _⟩

end Go.Proofs.YtnboooaockgoiaaGreatDoor

/- The walk of the document's own Parse. -/
namespace Go.Proofs.YtnboooaockgoiaaGreatDoor
open Go.RowKit
set_option linter.unusedVariables false

set_option maxRecDepth 100000 in
theorem refParse_any (s : ByteArray) (hs : s.size ≤ 9223372036854775807) (w : World) : Calls Tryz.prog 100 #[.string s] w fun e w' => e = .returned (pA (bs s)) ∧ w' = w := by
  by_cases h0 : s.size = 0
  · have hp : pA (bs s) = .tuple #[.int .i64 0, .int .i64 3] := by
      rw [pA, show isNum (bs s) = false from by rw [isNum, bs_length]; simp [h0]]; rfl
    rw [hp]
    clear hp
    go_enter Tryz.func100, Tryz.ntmps100
    go_wp2
    go_ret2
    exact ⟨rfl, rfl⟩
  · go_enter Tryz.func100, Tryz.ntmps100
    go_wp2
    go_loopw [4, 5, 6] (fun v f i wr => ∃ k : Nat, k ≤ s.size ∧ i = .int .i64 k ∧ ((bs s).take k).all isDig = true ∧ (∃ z : Int, v = .int .i64 z ∧ (Fits (val ((bs s).take k)) → f = .bool false ∧ z = val ((bs s).take k)) ∧ (¬ Fits (val ((bs s).take k)) → f = .bool true)) ∧ wr = w) (fun _ _ i _ => s.size - (intOf i).toNat)
    case atStart => exact ⟨0, by omega, rfl, by simp, ⟨0, rfl, fun _ => ⟨rfl, rfl⟩, fun h => absurd (show Fits ((val ([] : List UInt8) : Nat) : Int) from by decide) h⟩, rfl⟩
    case round =>
      obtain ⟨k, hk, rfl, hd, ⟨z, rfl, c1, c2⟩, rfl⟩ := hrel
      have HD : Hid _ := hd
      clear hd
      by_cases hlt : k < s.size
      · have hat : Hid _ := bs_at s k hlt
        cases hx : isDig s[k] with
        | false =>
          have hp : pA (bs s) = .tuple #[.int .i64 0, .int .i64 3] := by
            rw [pA, show isNum (bs s) = false from by rw [isNum, all_not hat.out hx, Bool.and_false]]; rfl
          replace hp : Hid _ := hp
          rw [isDig, Bool.and_eq_false_iff, decide_eq_false_iff_not, decide_eq_false_iff_not] at hx
          clear c1 c2
          by_cases hlo : ((s[k]).toNat : Int) < 48
          · have f1 : decide (((s[k]).toNat : Int) < 48) = true := by simpa using hlo
            clear hx
            go_wp2
            go_ret2
            exact ⟨by rw [hp.out]; rfl, rfl⟩
          · have f1 : decide (((s[k]).toNat : Int) < 48) = false := by simpa using hlo
            have f2 : decide (57 < ((s[k]).toNat : Int)) = true := by simp; omega
            clear hx
            go_wp2
            go_ret2
            exact ⟨by rw [hp.out]; rfl, rfl⟩
        | true =>
          have f := hx
          rw [isDig, Bool.and_eq_true, decide_eq_true_iff, decide_eq_true_iff] at f
          obtain ⟨d1, d2⟩ := f
          have f1 : decide (((s[k]).toNat : Int) < 48) = false := by simp; omega
          have f2 : decide (57 < ((s[k]).toNat : Int)) = false := by simp; omega
          have hall : Hid _ := all_take hat.out HD.out hx
          have hv : Hid _ := val_take hat.out
          clear hx
          by_cases hf : Fits (val ((bs s).take k))
          · obtain ⟨rfl, rfl⟩ := c1 hf
            clear c2 c1
            generalize hz : val ((bs s).take k) = z at *
            replace hz : Hid _ := hz
            have hn : ((val ((bs s).take (k + 1)) : Nat) : Int) = (z : Int) * 10 + ((s[k].toNat : Int) - 48) := by rw [hv.out]; omega
            obtain ⟨g1, g2⟩ := hf
            by_cases hf' : Fits (val ((bs s).take (k + 1)))
            · have g3 : decide ((9223372036854775807 - ((s[k].toNat : Int) - 48)) / 10 < (z : Int)) = false := by rw [hn] at hf'; unfold Fits at hf'; simp; omega
              have b1 : (z : Int) * 10 ≤ 9223372036854775807 := by rw [hn] at hf'; unfold Fits at hf'; omega
              have b2 : (z : Int) * 10 + ((s[k].toNat : Int) - 48) ≤ 9223372036854775807 := by rw [hn] at hf'; unfold Fits at hf'; omega
              replace hn : Hid _ := hn
              replace hf' : Hid _ := hf'
              go_wp2
              go_roundw
              case rel => exact ⟨k + 1, by omega, by go_num, hall.out, ⟨_, rfl, fun _ => ⟨rfl, hn.out.symm⟩, fun h => absurd hf'.out h⟩, trivial⟩
              case measure => simp only [intOf]; omega
            · have g3 : decide ((9223372036854775807 - ((s[k].toNat : Int) - 48)) / 10 < (z : Int)) = true := by rw [hn] at hf'; unfold Fits at hf'; simp; omega
              replace hn : Hid _ := hn
              replace hf' : Hid _ := hf'
              go_wp2
              go_roundw
              case rel => exact ⟨k + 1, by omega, by go_num, hall.out, ⟨_, rfl, fun h => absurd h hf'.out, fun h => rfl⟩, trivial⟩
              case measure => simp only [intOf]; omega
          · have e := c2 hf
            subst e
            have hf' : ¬ Fits (val ((bs s).take (k + 1))) := by rw [hv.out]; unfold Fits at *; omega
            replace hf' : Hid _ := hf'
            clear c1 c2 hf
            go_wp2
            go_roundw
            case rel => exact ⟨k + 1, by omega, by go_num, hall.out, ⟨_, rfl, fun h => absurd h hf'.out, fun h => rfl⟩, trivial⟩
            case measure => simp only [intOf]; omega
      · have hall := HD.out
        rw [List.take_of_length_le (by rw [bs_length]; omega)] at hall c1 c2
        have hp : pA (bs s) = nA (val (bs s)) := by rw [pA, show isNum (bs s) = true from by rw [isNum, hall, Bool.and_true, bs_length]; simp; omega]; rfl
        by_cases hf : Fits (val (bs s))
        · obtain ⟨rfl, rfl⟩ := c1 hf
          rw [nA_in hf] at hp
          replace hp : Hid _ := hp
          clear c1 c2 hf hall
          go_wp2
          go_ret2
          exact ⟨by rw [hp.out]; rfl, rfl⟩
        · have e := c2 hf
          subst e
          rw [nA_out hf] at hp
          replace hp : Hid _ := hp
          clear c1 c2 hf hall
          go_wp2
          go_ret2
          exact ⟨by rw [hp.out]; rfl, rfl⟩
end Go.Proofs.YtnboooaockgoiaaGreatDoor

/- The walks of the document's one: a name, a number. -/
namespace Go.Proofs.YtnboooaockgoiaaGreatDoor
open Go.RowKit
set_option linter.unusedVariables false

/-- The two blocks that one makes. -/
theorem two_z (w : World) (t : Tk) : Zr ((w.alloc (.cells #[.int .i64 0, .string ⟨#[]⟩, .int .i64 0, .int .i64 0] 91)).alloc (.cells #[.int .i64 t.1, .string t.2.1, .int .i64 t.2.2.1, .int .i64 t.2.2.2] 91)) w.heap.size := (Zr.new w).later ((Below.refl _ _).alloc (Nat.le_refl _) _)
theorem two_t (w : World) (t : Tk) : Tb ((w.alloc (.cells #[.int .i64 0, .string ⟨#[]⟩, .int .i64 0, .int .i64 0] 91)).alloc (.cells #[.int .i64 t.1, .string t.2.1, .int .i64 t.2.2.1, .int .i64 t.2.2.2] 91)) (w.heap.size + 1) t := by
  have := Tb.new (w.alloc (.cells #[.int .i64 0, .string ⟨#[]⟩, .int .i64 0, .int .i64 0] 91)) t
  simpa using this
theorem two_b (w : World) (t : Tk) : Below w.heap.size w ((w.alloc (.cells #[.int .i64 0, .string ⟨#[]⟩, .int .i64 0, .int .i64 0] 91)).alloc (.cells #[.int .i64 t.1, .string t.2.1, .int .i64 t.2.2.1, .int .i64 t.2.2.2] 91)) := ((Below.refl _ _).alloc (Nat.le_refl _) _).alloc (by simp) _

set_option maxRecDepth 100000 in
set_option maxHeartbeats 2000000 in
theorem one_name (s : ByteArray) (hs : s.size ≤ 400) (j : Nat) (hj : j < s.size) (hg : got isL s j = true) (w : World) : Calls Tryz.prog 69 #[.string s, .int .i64 (j : Int)] w fun e w' => Ones (nameW s j) e ∧ Below w.heap.size w w' := by
  have hge := till_ge isN s j
  have hle := till_le (p := isN) (Nat.le_of_lt hj)
  have HL : Hid (∀ c w, _) := fun c w => refLetter_any c w
  have HD : Hid (∀ c w, _) := fun c w => refDigit_any c w
  have HW : Hid (∀ w, _) := fun w => word_any (s.extract j (till isN s j)) w
  have HS := hid (fun h => wl_short _ (isW_iff.1 h) : isW (s.extract j (till isN s j)) = true → (s.extract j (till isN s j)).size ≤ 8)
  rw [got_at hj] at hg
  have HA : Hid (16 < till isN s j - j → nameW s j = flt j 7) := fun h => by rw [nameW, if_pos h]
  have HB : Hid (¬ 16 < till isN s j - j → nameW s j = wrd (if isW (s.extract j (till isN s j)) then 2 else 1, s.extract j (till isN s j), 0, j) (till isN s j)) := fun h => by rw [nameW, if_neg h]
  have HT : Hid (till isN s j = till isN s j) := rfl
  have HZ : Hid ((s.extract j (till isN s j)).size = till isN s j - j) := by rw [Hid, ByteArray.size_extract]; omega
  generalize nameW s j = RR at *
  generalize hm : till isN s j = m at *
  replace hm := hid hm
  have hL := HL.out s[j] ((w.alloc (.cells #[.int .i64 0, .string ⟨#[]⟩, .int .i64 0, .int .i64 0] 91)).alloc (.cells #[.int .i64 0, .string ⟨#[]⟩, .int .i64 0, .int .i64 (j : Int)] 91))
  rw [hg] at hL
  replace hL := hid hL
  have z0 := two_z w (0, ⟨#[]⟩, 0, (j : Int))
  have t0 := two_t w (0, ⟨#[]⟩, 0, (j : Int))
  have b0 := two_b w (0, ⟨#[]⟩, 0, (j : Int))
  go_enter Tryz.func69, Tryz.ntmps69
  go_wp2_with fail
  refine Calls.mono hL.out ?_
  rintro e w1 ⟨rfl, rfl⟩
  clear hL
  go_wp2_with fail
  go_loopw [8] (fun i wr => ∃ k : Nat, j ≤ k ∧ k ≤ s.size ∧ i = .int .i64 k ∧ Hid (till isN s k = m) ∧ wr = (w.alloc (.cells #[.int .i64 0, .string ⟨#[]⟩, .int .i64 0, .int .i64 0] 91)).alloc (.cells #[.int .i64 0, .string ⟨#[]⟩, .int .i64 0, .int .i64 (j : Int)] 91)) (fun i _ => s.size - (intOf i).toNat)
  case atStart => exact ⟨j, Nat.le_refl _, by omega, rfl, hm.out, rfl⟩
  case round =>
    obtain ⟨k, hk1, hk, rfl, HK, rfl⟩ := hrel
    by_cases hlt : k < s.size
    · have hL := HL.out s[k] ((w.alloc (.cells #[.int .i64 0, .string ⟨#[]⟩, .int .i64 0, .int .i64 0] 91)).alloc (.cells #[.int .i64 0, .string ⟨#[]⟩, .int .i64 0, .int .i64 (j : Int)] 91))
      have hD := HD.out s[k] ((w.alloc (.cells #[.int .i64 0, .string ⟨#[]⟩, .int .i64 0, .int .i64 0] 91)).alloc (.cells #[.int .i64 0, .string ⟨#[]⟩, .int .i64 0, .int .i64 (j : Int)] 91))
      cases e1 : isL s[k] with
      | true =>
        have HN := hid ((till_step (p := isN) (by rw [got_at hlt, isN, e1]; rfl)).symm.trans HK.out)
        rw [e1] at hL
        replace hL := hid hL
        clear hD HL HD HW HS HA HB HZ hg e1 z0 t0 b0
        go_wp2_with fail
        refine Calls.mono hL.out ?_
        rintro e w2 ⟨rfl, rfl⟩
        clear hL
        go_wp2
        go_roundw
        case rel => exact ⟨k + 1, by omega, by omega, by go_num, HN, by first | trivial | rfl⟩
        case measure => simp only [intOf]; omega
      | false =>
        rw [e1] at hL
        replace hL := hid hL
        cases e2 : isDig s[k] with
        | true =>
          have HN := hid ((till_step (p := isN) (by rw [got_at hlt, isN, e1, e2]; rfl)).symm.trans HK.out)
          rw [e2] at hD
          replace hD := hid hD
          clear HL HD HW HS HA HB HZ hg e1 e2 z0 t0 b0
          go_wp2_with fail
          refine Calls.mono hL.out ?_
          rintro e w2 ⟨rfl, rfl⟩
          clear hL
          go_wp2_with fail
          refine Calls.mono hD.out ?_
          rintro e w2 ⟨rfl, rfl⟩
          clear hD
          go_wp2
          go_roundw
          case rel => exact ⟨k + 1, by omega, by omega, by go_num, HN, by first | trivial | rfl⟩
          case measure => simp only [intOf]; omega
        | false =>
          have hkm : k = m := (till_stop (p := isN) (by rw [got_at hlt, isN, e1, e2]; rfl)).symm.trans HK.out
          subst hkm
          rw [e2] at hD
          replace hD := hid hD
          clear HL HD hg e1 e2 HK
          go_wp2_with fail
          refine Calls.mono hL.out ?_
          rintro e w2 ⟨rfl, rfl⟩
          clear hL
          go_wp2_with fail
          refine Calls.mono hD.out ?_
          rintro e w2 ⟨rfl, rfl⟩
          clear hD
          go_wp2_with fail
          go_region
          all_goals
            go_wp2_with fail
            refine Calls.mono (HW.out _) ?_
            rintro e w3 ⟨rfl, hb3⟩
          have z3 : Zr w3 w.heap.size := (two_z w (1, s.extract j k, 0, (j : Int))).drew.later hb3
          have t3 : Tb w3 (w.heap.size + 1) (1, s.extract j k, 0, (j : Int)) := (two_t w (1, s.extract j k, 0, (j : Int))).drew.later hb3
          have b3 : Below w.heap.size w w3 := Below.on (two_b w (1, s.extract j k, 0, (j : Int))).drew hb3
          clear HW hb3 z0 t0 b0
          obtain ⟨c0, c1, c2, c3⟩ := z3.cells
          obtain ⟨f0, f1, f2, f3⟩ := z3.free
          obtain ⟨d0, d1, d2, d3⟩ := t3.cells
          obtain ⟨e0, e1, e2, e3⟩ := t3.free
          cases hw : isW (s.extract j k) with
          | true =>
            have hsz := HS.out hw
            have hR := HB.out (by have := HZ.out; omega)
            rw [hw, if_pos rfl] at hR
            subst hR
            clear HA HB HS HZ hw
            go_wp2
            all_goals refine bodyPost_ret (v := .tuple #[tkA (2, s.extract j k, 0, j), .int .i64 k, .int .i64 0, .int .i64 0]) (by simp [results, Tryz.results69, go_sem, c0, c1, c2, c3, tkA]) rfl ⟨ones_ok _ _ _, below4 (b3.setCell (by show w.heap.size ≤ w.heap.size + 1; omega) _) _ _ _ _⟩
          | false =>
            by_cases h16 : 16 < k - j
            · have hR := HA.out h16
              subst hR
              have g16 : decide ((16 : Int) < (k : Int) - (j : Int)) = true := by simp; omega
              clear HA HB HS HZ hw
              go_wp2
              all_goals refine bodyPost_ret (v := .tuple #[tkA (1, s.extract j k, 0, j), .int .i64 0, .int .i64 j, .int .i64 7]) (by simp [results, Tryz.results69, go_sem, c0, c1, c2, c3, tkA]) rfl ⟨ones_flt _ _ _ _ (by decide), below4 b3 _ _ _ _⟩
            · have hR := HB.out h16
              rw [hw, if_neg (by simp)] at hR
              subst hR
              have g16 : decide ((16 : Int) < (k : Int) - (j : Int)) = false := by simp; omega
              clear HA HB HS HZ hw
              go_wp2
              all_goals refine bodyPost_ret (v := .tuple #[tkA (1, s.extract j k, 0, j), .int .i64 k, .int .i64 0, .int .i64 0]) (by simp [results, Tryz.results69, go_sem, c0, c1, c2, c3, tkA]) rfl ⟨ones_ok _ _ _, below4 b3 _ _ _ _⟩
    · have hkm : k = m := (till_stop (p := isN) (got_end (by omega))).symm.trans HK.out
      subst hkm
      clear HL HD hg HK
      go_wp2_with fail
      go_region
      all_goals
        go_wp2_with fail
        refine Calls.mono (HW.out _) ?_
        rintro e w3 ⟨rfl, hb3⟩
      have z3 : Zr w3 w.heap.size := (two_z w (1, s.extract j k, 0, (j : Int))).drew.later hb3
      have t3 : Tb w3 (w.heap.size + 1) (1, s.extract j k, 0, (j : Int)) := (two_t w (1, s.extract j k, 0, (j : Int))).drew.later hb3
      have b3 : Below w.heap.size w w3 := Below.on (two_b w (1, s.extract j k, 0, (j : Int))).drew hb3
      clear HW hb3 z0 t0 b0
      obtain ⟨c0, c1, c2, c3⟩ := z3.cells
      obtain ⟨f0, f1, f2, f3⟩ := z3.free
      obtain ⟨d0, d1, d2, d3⟩ := t3.cells
      obtain ⟨e0, e1, e2, e3⟩ := t3.free
      cases hw : isW (s.extract j k) with
      | true =>
        have hsz := HS.out hw
        have hR := HB.out (by have := HZ.out; omega)
        rw [hw, if_pos rfl] at hR
        subst hR
        clear HA HB HS HZ hw
        go_wp2
        all_goals refine bodyPost_ret (v := .tuple #[tkA (2, s.extract j k, 0, j), .int .i64 k, .int .i64 0, .int .i64 0]) (by simp [results, Tryz.results69, go_sem, c0, c1, c2, c3, tkA]) rfl ⟨ones_ok _ _ _, below4 (b3.setCell (by show w.heap.size ≤ w.heap.size + 1; omega) _) _ _ _ _⟩
      | false =>
        by_cases h16 : 16 < k - j
        · have hR := HA.out h16
          subst hR
          have g16 : decide ((16 : Int) < (k : Int) - (j : Int)) = true := by simp; omega
          clear HA HB HS HZ hw
          go_wp2
          all_goals refine bodyPost_ret (v := .tuple #[tkA (1, s.extract j k, 0, j), .int .i64 0, .int .i64 j, .int .i64 7]) (by simp [results, Tryz.results69, go_sem, c0, c1, c2, c3, tkA]) rfl ⟨ones_flt _ _ _ _ (by decide), below4 b3 _ _ _ _⟩
        · have hR := HB.out h16
          rw [hw, if_neg (by simp)] at hR
          subst hR
          have g16 : decide ((16 : Int) < (k : Int) - (j : Int)) = false := by simp; omega
          clear HA HB HS HZ hw
          go_wp2
          all_goals refine bodyPost_ret (v := .tuple #[tkA (1, s.extract j k, 0, j), .int .i64 k, .int .i64 0, .int .i64 0]) (by simp [results, Tryz.results69, go_sem, c0, c1, c2, c3, tkA]) rfl ⟨ones_ok _ _ _, below4 b3 _ _ _ _⟩

set_option maxRecDepth 100000 in
set_option maxHeartbeats 2000000 in
theorem one_num (s : ByteArray) (hs : s.size ≤ 400) (j : Nat) (hj : j < s.size) (hg1 : got isL s j = false) (hg : got isDig s j = true) (w : World) : Calls Tryz.prog 69 #[.string s, .int .i64 (j : Int)] w fun e w' => Ones (numW s j) e ∧ Below w.heap.size w w' := by
  have hge := till_ge isDig s j
  have hle := till_le (p := isDig) (Nat.le_of_lt hj)
  have HL : Hid (∀ c w, _) := fun c w => refLetter_any c w
  have HD : Hid (∀ c w, _) := fun c w => refDigit_any c w
  have HP : Hid (∀ w, _) := fun w => refParse_any (s.extract j (till isDig s j)) (by have := extract_size s j (till isDig s j); omega) w
  rw [pA_till hg] at HP
  have HA : Hid (got isL s (till isDig s j) = true → numW s j = flt (till isDig s j) 4) := fun k => by rw [numW, if_pos k]
  have HB : Hid (got isL s (till isDig s j) = false → Fits (numV s j (till isDig s j)) → numW s j = wrd (3, ⟨#[]⟩, numV s j (till isDig s j), j) (till isDig s j)) := fun k f => by rw [numW, if_neg (by rw [k]; simp), if_pos f]
  have HC : Hid (got isL s (till isDig s j) = false → ¬ Fits (numV s j (till isDig s j)) → numW s j = flt j 8) := fun k f => by rw [numW, if_neg (by rw [k]; simp), if_neg f]
  rw [got_at hj] at hg hg1
  have hwj : IntKind.i64.wrap (j : Int) = j := by rw [IntKind.wrap_i64]; omega
  generalize numW s j = RR at *
  generalize hm : till isDig s j = m at *
  generalize numV s j m = V at *
  replace hm := hid hm
  have hL := HL.out s[j] ((w.alloc (.cells #[.int .i64 0, .string ⟨#[]⟩, .int .i64 0, .int .i64 0] 91)).alloc (.cells #[.int .i64 0, .string ⟨#[]⟩, .int .i64 0, .int .i64 (j : Int)] 91))
  rw [hg1] at hL
  replace hL := hid hL
  have hD := HD.out s[j] ((w.alloc (.cells #[.int .i64 0, .string ⟨#[]⟩, .int .i64 0, .int .i64 0] 91)).alloc (.cells #[.int .i64 0, .string ⟨#[]⟩, .int .i64 0, .int .i64 (j : Int)] 91))
  rw [hg] at hD
  replace hD := hid hD
  go_enter Tryz.func69, Tryz.ntmps69
  go_wp2_with fail
  refine Calls.mono hL.out ?_
  rintro e w1 ⟨rfl, rfl⟩
  clear hL
  go_wp2_with fail
  refine Calls.mono hD.out ?_
  rintro e w1 ⟨rfl, rfl⟩
  clear hD
  go_wp2_with fail
  go_loopw [8] (fun i wr => ∃ k : Nat, j ≤ k ∧ k ≤ s.size ∧ i = .int .i64 k ∧ Hid (till isDig s k = m) ∧ wr = (w.alloc (.cells #[.int .i64 0, .string ⟨#[]⟩, .int .i64 0, .int .i64 0] 91)).alloc (.cells #[.int .i64 0, .string ⟨#[]⟩, .int .i64 0, .int .i64 (j : Int)] 91)) (fun i _ => s.size - (intOf i).toNat)
  case atStart => exact ⟨j, Nat.le_refl _, by omega, rfl, hm.out, rfl⟩
  case round =>
    obtain ⟨k, hk1, hk, rfl, HK, rfl⟩ := hrel
    by_cases hlt : k < s.size
    · have hD := HD.out s[k] ((w.alloc (.cells #[.int .i64 0, .string ⟨#[]⟩, .int .i64 0, .int .i64 0] 91)).alloc (.cells #[.int .i64 0, .string ⟨#[]⟩, .int .i64 0, .int .i64 (j : Int)] 91))
      cases e2 : isDig s[k] with
      | true =>
        have HN := hid ((till_step (p := isDig) (by rw [got_at hlt, e2])).symm.trans HK.out)
        rw [e2] at hD
        replace hD := hid hD
        clear HL HD HP HA HB HC hg hg1 e2
        go_wp2_with fail
        refine Calls.mono hD.out ?_
        rintro e w2 ⟨rfl, rfl⟩
        clear hD
        go_wp2
        go_roundw
        case rel => exact ⟨k + 1, by omega, by omega, by go_num, HN, by first | trivial | rfl⟩
        case measure => simp only [intOf]; omega
      | false =>
        have hkm : k = m := (till_stop (p := isDig) (by rw [got_at hlt, e2])).symm.trans HK.out
        subst hkm
        rw [e2] at hD
        replace hD := hid hD
        have hL := HL.out s[k] ((w.alloc (.cells #[.int .i64 0, .string ⟨#[]⟩, .int .i64 0, .int .i64 0] 91)).alloc (.cells #[.int .i64 0, .string ⟨#[]⟩, .int .i64 0, .int .i64 (j : Int)] 91))
        rw [got_at hlt] at HA HB HC
        cases e1 : isL s[k] with
        | true =>
          rw [e1] at hL
          replace hL := hid hL
          have hR := HA.out e1
          subst hR
          clear HL HD HP HA HB HC hg hg1 e1 e2 HK
          go_wp2_with fail
          refine Calls.mono hD.out ?_
          rintro e w2 ⟨rfl, rfl⟩
          clear hD
          go_wp2_with fail
          refine Calls.mono hL.out ?_
          rintro e w2 ⟨rfl, rfl⟩
          clear hL
          go_wp2
          all_goals refine bodyPost_ret (v := .tuple #[tkA (0, ⟨#[]⟩, 0, j), .int .i64 0, .int .i64 k, .int .i64 4]) (by simp [results, Tryz.results69, go_sem, tkA]) rfl ⟨ones_flt _ _ _ _ (by decide), ((Below.refl _ _).alloc (Nat.le_refl _) _).alloc (by simp) _⟩
        | false =>
          rw [e1] at hL
          replace hL := hid hL
          replace HB := hid (HB.out e1)
          replace HC := hid (HC.out e1)
          clear HL HD HA hg hg1 e1 e2 HK
          by_cases hf : Fits (V : Int)
          · have hR := HB.out hf
            subst hR
            rw [nA_in hf] at HP
            clear HB HC hf
            go_wp2_with fail
            refine Calls.mono hD.out ?_
            rintro e w2 ⟨rfl, rfl⟩
            clear hD
            go_wp2_with fail
            refine Calls.mono hL.out ?_
            rintro e w2 ⟨rfl, rfl⟩
            clear hL
            go_wp2_with fail
            refine Calls.mono (HP.out _) ?_
            rintro e w2 ⟨rfl, rfl⟩
            clear HP
            go_wp2
            all_goals refine bodyPost_ret (v := .tuple #[tkA (3, ⟨#[]⟩, V, j), .int .i64 k, .int .i64 j, .int .i64 0]) (by simp [results, Tryz.results69, go_sem, tkA]) rfl ⟨ones_ok _ _ _, ((Below.refl _ _).alloc (Nat.le_refl _) _).alloc (by simp) _⟩
          · have hR := HC.out hf
            subst hR
            rw [nA_out hf] at HP
            clear HB HC hf
            go_wp2_with fail
            refine Calls.mono hD.out ?_
            rintro e w2 ⟨rfl, rfl⟩
            clear hD
            go_wp2_with fail
            refine Calls.mono hL.out ?_
            rintro e w2 ⟨rfl, rfl⟩
            clear hL
            go_wp2_with fail
            refine Calls.mono (HP.out _) ?_
            rintro e w2 ⟨rfl, rfl⟩
            clear HP
            go_wp2
            all_goals refine bodyPost_ret (v := .tuple #[tkA (3, ⟨#[]⟩, 0, j), .int .i64 k, .int .i64 j, .int .i64 8]) (by simp [results, Tryz.results69, go_sem, tkA]) rfl ⟨ones_flt _ _ _ _ (by decide), ((Below.refl _ _).alloc (Nat.le_refl _) _).alloc (by simp) _⟩
    · have hkm : k = m := (till_stop (p := isDig) (got_end (by omega))).symm.trans HK.out
      subst hkm
      replace HB := hid (HB.out (got_end (by omega)))
      replace HC := hid (HC.out (got_end (by omega)))
      clear HL HD HA hg hg1 HK
      by_cases hf : Fits (V : Int)
      · have hR := HB.out hf
        subst hR
        rw [nA_in hf] at HP
        clear HB HC hf
      
        go_wp2_with fail
        refine Calls.mono (HP.out _) ?_
        rintro e w2 ⟨rfl, rfl⟩
        clear HP
        go_wp2
        all_goals refine bodyPost_ret (v := .tuple #[tkA (3, ⟨#[]⟩, V, j), .int .i64 k, .int .i64 j, .int .i64 0]) (by simp [results, Tryz.results69, go_sem, tkA]) rfl ⟨ones_ok _ _ _, ((Below.refl _ _).alloc (Nat.le_refl _) _).alloc (by simp) _⟩
      · have hR := HC.out hf
        subst hR
        rw [nA_out hf] at HP
        clear HB HC hf
      
        go_wp2_with fail
        refine Calls.mono (HP.out _) ?_
        rintro e w2 ⟨rfl, rfl⟩
        clear HP
        go_wp2
        all_goals refine bodyPost_ret (v := .tuple #[tkA (3, ⟨#[]⟩, 0, j), .int .i64 k, .int .i64 j, .int .i64 8]) (by simp [results, Tryz.results69, go_sem, tkA]) rfl ⟨ones_flt _ _ _ _ (by decide), ((Below.refl _ _).alloc (Nat.le_refl _) _).alloc (by simp) _⟩

end Go.Proofs.YtnboooaockgoiaaGreatDoor

/- The walks of the document's one: a text value, a sign. -/
namespace Go.Proofs.YtnboooaockgoiaaGreatDoor
open Go.RowKit
set_option linter.unusedVariables false

set_option maxRecDepth 100000 in
set_option maxHeartbeats 2000000 in
theorem one_quo (s : ByteArray) (hs : s.size ≤ 400) (j : Nat) (hj : j < s.size) (hg1 : got isL s j = false) (hg2 : got isDig s j = false) (hg : got (isB 39) s j = true) (w : World) : Calls Tryz.prog 69 #[.string s, .int .i64 (j : Int)] w fun e w' => Ones (quoW s j) e ∧ Below w.heap.size w w' := by
  have HQ : Hid (∀ w, _) := fun w => letters_any s hs j hj w
  rw [got_at hj] at hg hg1 hg2
  have g3 : ((s[j].toNat : Int) == 39) = true := by
    rw [isB, decide_eq_true_iff] at hg
    simp; omega
  generalize quoW s j = RR at *
  have hL := refLetter_any s[j] ((w.alloc (.cells #[.int .i64 0, .string ⟨#[]⟩, .int .i64 0, .int .i64 0] 91)).alloc (.cells #[.int .i64 0, .string ⟨#[]⟩, .int .i64 0, .int .i64 (j : Int)] 91))
  rw [hg1] at hL
  replace hL := hid hL
  have hD := refDigit_any s[j] ((w.alloc (.cells #[.int .i64 0, .string ⟨#[]⟩, .int .i64 0, .int .i64 0] 91)).alloc (.cells #[.int .i64 0, .string ⟨#[]⟩, .int .i64 0, .int .i64 (j : Int)] 91))
  rw [hg2] at hD
  replace hD := hid hD
  clear hg hg1 hg2
  go_enter Tryz.func69, Tryz.ntmps69
  go_wp2_with fail
  refine Calls.mono hL.out ?_
  rintro e w1 ⟨rfl, rfl⟩
  clear hL
  go_wp2_with fail
  refine Calls.mono hD.out ?_
  rintro e w1 ⟨rfl, rfl⟩
  clear hD
  go_wp2_with fail
  refine Calls.mono (HQ.out _) ?_
  rintro e w3 ⟨⟨t, x, b, rfl, hO1, hO2⟩, hb3⟩
  have z3 : Zr w3 w.heap.size := (two_z w (0, ⟨#[]⟩, 0, (j : Int))).later hb3
  have b3 : Below w.heap.size w w3 := Below.on (two_b w (0, ⟨#[]⟩, 0, (j : Int))) hb3
  have hO : Ones RR (.returned (.tuple #[tkA t, .int .i64 x, .int .i64 b, .int .i64 RR.er])) := ⟨t, x, b, rfl, hO1, hO2⟩
  replace hO := hid hO
  clear HQ hb3 hO1 hO2
  unfold tkA
  obtain ⟨c0, c1, c2, c3⟩ := z3.cells
  obtain ⟨f0, f1, f2, f3⟩ := z3.free
  go_wp2
  all_goals refine bodyPost_ret (v := .tuple #[tkA t, .int .i64 x, .int .i64 b, .int .i64 RR.er]) (by simp [results, Tryz.results69, go_sem, c0, c1, c2, c3, tkA]) rfl ⟨hO.out, below4 b3 _ _ _ _⟩

/-- The longest sign, as the document says it. -/
theorem sgn_two {s : ByteArray} {j : Nat} (hj : j + 1 < s.size) (h : two2 s[j] s[j + 1] = true) : sgn s j = 2 := by
  have h0 : j < s.size := by omega
  simp only [two2, Bool.or_eq_true, Bool.and_eq_true, decide_eq_true_eq] at h
  rw [sgn, got_at h0, got_at h0]
  rcases h with ⟨h1, h2⟩ | ⟨h1, h2⟩
  · rw [if_pos (by simp [isB, h1]), got_at hj, if_pos (by simp [is2]; omega)]
  · rw [if_neg (by simp [isB, h1]), if_pos (by simp [isB, h1]), got_at hj, if_pos (by simp [isB, h2])]
theorem isO_sl (c : UInt8) : sl.contains c = (decide (c.toNat = 60) || decide (c.toNat = 62) || isO c) := by
  have h : ∀ n, n < 256 → sl.contains (UInt8.ofNat n) = (decide ((UInt8.ofNat n).toNat = 60) || decide ((UInt8.ofNat n).toNat = 62) || isO (UInt8.ofNat n)) := by decide +kernel
  have := h c.toNat (UInt8.toNat_lt c)
  rwa [UInt8.ofNat_toNat] at this
theorem sgn_one {s : ByteArray} {j : Nat} (hj : j < s.size) (h : ∀ h1 : j + 1 < s.size, two2 s[j] s[j + 1] = false) : sgn s j = if sl.contains s[j] then 1 else 0 := by
  rw [isO_sl, sgn, got_at hj, got_at hj, got_at hj]
  have hn : ∀ p : UInt8 → Bool, (∀ h1 : j + 1 < s.size, p s[j + 1] = false) → got p s (j + 1) = false := fun p hp => by
    cases Nat.lt_or_ge (j + 1) s.size with
    | inl h1 => rw [got_at h1]; exact hp h1
    | inr h1 => exact got_end h1
  by_cases h60 : s[j].toNat = 60
  · rw [if_pos (by simp [isB, h60]), if_neg, if_pos (by simp [h60])]
    rw [hn _ (fun h1 => by have := h h1; simp [two2, h60] at this; simp [is2]; omega)]
    simp
  · rw [if_neg (by simp [isB, h60])]
    by_cases h62 : s[j].toNat = 62
    · rw [if_pos (by simp [isB, h62]), if_neg, if_pos (by simp [h62])]
      rw [hn _ (fun h1 => by have := h h1; simp [two2, h62] at this; simp [isB]; omega)]
      simp
    · rw [if_neg (by simp [isB, h62])]
      simp only [h60, h62, decide_false, Bool.false_or]
theorem str_two (s : ByteArray) (hs : s.size ≤ 400) (k : Nat) (h : k + 1 < s.size) (w : World) : (Instr.slice 9 (.string s) (some (.int .i64 (k : Int))) (some (.int .i64 ((k : Int) + 2))) none).run Tryz.prog w = .ok (.string ⟨#[s[k], s[k + 1]]⟩) w := by
  have e : s.extract k (k + 2) = ⟨#[s[k], s[k + 1]]⟩ := by
    apply ByteArray.ext
    apply Array.toList_inj.1
    have := bs_extract s k (k + 2)
    rw [bs, Nat.add_sub_cancel_left, drop_at (by omega), drop_at h] at this
    exact this
  rw [← e]
  obtain ⟨m, hm⟩ : ∃ m, m = k + 2 := ⟨_, rfl⟩
  have hm2 : (k : Int) + 2 = (m : Int) := by omega
  rw [hm2, ← hm]
  have h1 : k ≤ m := by omega
  have h2 : m ≤ s.size := by omega
  clear hm hm2 e h
  go_simp
theorem ext_two (s : ByteArray) (k : Nat) (h : k + 1 < s.size) : s.extract k (k + 2) = ⟨#[s[k], s[k + 1]]⟩ := by
  apply ByteArray.ext
  apply Array.toList_inj.1
  have := bs_extract s k (k + 2)
  rw [bs, Nat.add_sub_cancel_left, drop_at (by omega), drop_at h] at this
  exact this
theorem ext_one (s : ByteArray) (k : Nat) (h : k < s.size) : s.extract k (k + 1) = ⟨#[s[k]]⟩ := by
  apply ByteArray.ext
  apply Array.toList_inj.1
  have := bs_extract s k (k + 1)
  rw [bs, Nat.add_sub_cancel_left, drop_at h] at this
  exact this
theorem two_list (a b x y : UInt8) : ((⟨#[a, b]⟩ : ByteArray).toList == [x, y]) = (decide (a.toNat = x.toNat) && decide (b.toNat = y.toNat)) := by
  rw [Bool.eq_iff_iff]
  simp only [beq_iff_eq, Bool.and_eq_true, decide_eq_true_eq, ByteArray.toList_eq]
  constructor
  · intro h; cases h; exact ⟨rfl, rfl⟩
  · rintro ⟨h1, h2⟩
    rw [UInt8.toNat_inj.1 h1, UInt8.toNat_inj.1 h2]

set_option maxRecDepth 100000 in
set_option maxHeartbeats 4000000 in
theorem one_sgn (s : ByteArray) (hs : s.size ≤ 400) (j : Nat) (hj : j < s.size) (hg1 : got isL s j = false) (hg2 : got isDig s j = false) (hg : got (isB 39) s j = false) (w : World) : Calls Tryz.prog 69 #[.string s, .int .i64 (j : Int)] w fun e w' => Ones (sgnW s j) e ∧ Below w.heap.size w w' := by
  rw [got_at hj] at hg hg1 hg2
  have g3 : ((s[j].toNat : Int) == 39) = false := by
    rw [isB, decide_eq_false_iff_not] at hg
    simp; omega
  have hL := refLetter_any s[j] ((w.alloc (.cells #[.int .i64 0, .string ⟨#[]⟩, .int .i64 0, .int .i64 0] 91)).alloc (.cells #[.int .i64 0, .string ⟨#[]⟩, .int .i64 0, .int .i64 (j : Int)] 91))
  rw [hg1] at hL
  replace hL := hid hL
  have hD := refDigit_any s[j] ((w.alloc (.cells #[.int .i64 0, .string ⟨#[]⟩, .int .i64 0, .int .i64 0] 91)).alloc (.cells #[.int .i64 0, .string ⟨#[]⟩, .int .i64 0, .int .i64 (j : Int)] 91))
  rw [hg2] at hD
  replace hD := hid hD
  have hwj : IntKind.i64.wrap ((j : Int) + 1) = j + 1 := by rw [IntKind.wrap_i64]; omega
  have hwj2 : IntKind.i64.wrap ((j : Int) + 2) = j + 2 := by rw [IntKind.wrap_i64]; omega
  clear hg hg1 hg2
  by_cases hj1 : j + 1 < s.size
  · have hsl := str_two s hs j hj1
    have g4 : decide ((j : Int) + 1 < (s.size : Int)) = true := by simp; omega
    have e1 := two_list s[j] s[j + 1] 60 62
    have e2 := two_list s[j] s[j + 1] 60 61
    have e3 := two_list s[j] s[j + 1] 62 61
    cases hT : two2 s[j] s[j + 1] with
    | true =>
      have h2 := sgn_two hj1 hT
      have hR : sgnW s j = wrd (5, ⟨#[s[j], s[j + 1]]⟩, 0, j) (j + 2) := by rw [sgnW, h2, if_neg (by omega), ext_two s j hj1]
      rw [hR]
      clear h2 hR
      generalize hTW : (⟨#[s[j], s[j + 1]]⟩ : ByteArray) = TW at *
      replace hTW := hid hTW
      simp only [two2, Bool.or_eq_true, Bool.and_eq_true, decide_eq_true_eq] at hT
      have hcase : (TW.toList == [60, 62]) = true ∨ ((TW.toList == [60, 62]) = false ∧ (TW.toList == [60, 61]) = true) ∨ ((TW.toList == [60, 62]) = false ∧ (TW.toList == [60, 61]) = false ∧ (TW.toList == [62, 61]) = true) := by
        rw [e1, e2, e3]
        rcases hT with ⟨h1, h2 | h2⟩ | ⟨h1, h2⟩
        · exact .inl (by simp [h1, h2])
        · exact .inr (.inl (by simp [h1, h2]))
        · exact .inr (.inr (by simp [h1, h2]))
      clear e1 e2 e3 hT
      rcases hcase with q1 | ⟨q1, q2⟩ | ⟨q1, q2, q3⟩
      · go_enter Tryz.func69, Tryz.ntmps69
        go_wp2_with fail
        refine Calls.mono hL.out ?_
        rintro e w1 ⟨rfl, rfl⟩
        clear hL
        go_wp2_with fail
        refine Calls.mono hD.out ?_
        rintro e w1 ⟨rfl, rfl⟩
        clear hD
        go_wp2
        all_goals refine bodyPost_ret (v := .tuple #[tkA (5, TW, 0, j), .int .i64 ((j + 2 : Nat) : Int), .int .i64 0, .int .i64 0]) (by simp [results, Tryz.results69, go_sem, tkA]) rfl ⟨ones_ok _ _ _, ((Below.refl _ _).alloc (Nat.le_refl _) _).alloc (by simp) _⟩
      · go_enter Tryz.func69, Tryz.ntmps69
        go_wp2_with fail
        refine Calls.mono hL.out ?_
        rintro e w1 ⟨rfl, rfl⟩
        clear hL
        go_wp2_with fail
        refine Calls.mono hD.out ?_
        rintro e w1 ⟨rfl, rfl⟩
        clear hD
        go_wp2
        all_goals refine bodyPost_ret (v := .tuple #[tkA (5, TW, 0, j), .int .i64 ((j + 2 : Nat) : Int), .int .i64 0, .int .i64 0]) (by simp [results, Tryz.results69, go_sem, tkA]) rfl ⟨ones_ok _ _ _, ((Below.refl _ _).alloc (Nat.le_refl _) _).alloc (by simp) _⟩
      · go_enter Tryz.func69, Tryz.ntmps69
        go_wp2_with fail
        refine Calls.mono hL.out ?_
        rintro e w1 ⟨rfl, rfl⟩
        clear hL
        go_wp2_with fail
        refine Calls.mono hD.out ?_
        rintro e w1 ⟨rfl, rfl⟩
        clear hD
        go_wp2
        all_goals refine bodyPost_ret (v := .tuple #[tkA (5, TW, 0, j), .int .i64 ((j + 2 : Nat) : Int), .int .i64 0, .int .i64 0]) (by simp [results, Tryz.results69, go_sem, tkA]) rfl ⟨ones_ok _ _ _, ((Below.refl _ _).alloc (Nat.le_refl _) _).alloc (by simp) _⟩
    | false =>
      have h1 := sgn_one hj (fun _ => hT)
      generalize hTW : (⟨#[s[j], s[j + 1]]⟩ : ByteArray) = TW at *
      replace hTW := hid hTW
      simp only [two2, Bool.or_eq_false_iff, Bool.and_eq_false_iff, decide_eq_false_iff_not] at hT
      have q1 : (TW.toList == [60, 62]) = false := by rw [e1]; simp; omega
      have q2 : (TW.toList == [60, 61]) = false := by rw [e2]; simp; omega
      have q3 : (TW.toList == [62, 61]) = false := by rw [e3]; simp; omega
      clear e1 e2 e3 hT
      have HR1 : Hid (sl.contains s[j] = true → sgnW s j = wrd (5, ⟨#[s[j]]⟩, 0, j) (j + 1)) := fun h => by rw [sgnW, h1, h, if_pos rfl, if_neg (by omega), ext_one s j hj]
      have HR0 : Hid (sl.contains s[j] = false → sgnW s j = flt j 4) := fun h => by rw [sgnW, h1, h]; rfl
      have hsl1 := str_slice' s hs j hj
      generalize sgnW s j = RR at *
      clear h1
      go_enter Tryz.func69, Tryz.ntmps69
      go_wp2_with fail
      refine Calls.mono hL.out ?_
      rintro e w1 ⟨rfl, rfl⟩
      clear hL
      go_wp2_with fail
      refine Calls.mono hD.out ?_
      rintro e w1 ⟨rfl, rfl⟩
      clear hD
      go_wp2
      go_loopw [13] (fun i wr => ∃ k : Nat, k ≤ 10 ∧ i = .int .i64 k ∧ Hid ((sl.take k).contains s[j] = false) ∧ Zr wr w.heap.size ∧ Tb wr (w.heap.size + 1) (5, ⟨#[]⟩, 0, j) ∧ Below w.heap.size w wr) (fun i _ => 10 - (intOf i).toNat)
      case atStart => exact ⟨0, by omega, rfl, rfl, two_z w (5, ⟨#[]⟩, 0, (j : Int)), two_t w (5, ⟨#[]⟩, 0, (j : Int)), two_b w (5, ⟨#[]⟩, 0, (j : Int))⟩
      case round =>
        obtain ⟨k, hk, rfl, HK, z, tb, hB⟩ := hrel
        by_cases hlt : k < 10
        · have hidx := sl_index k hlt
          have hix := str_index s j hj
          have hst := cont_step (l := sl) (k := k) (a := s[j]) (d := 0) hlt
          have hmem : sl.getD k 0 ∈ sl := by
            rw [List.getD, List.getElem?_eq_getElem (show k < sl.length from hlt)]
            exact List.getElem_mem _
          generalize sl.getD k 0 = d at *
          by_cases hx : d.toNat = s[j].toNat
          · have hc : sl.contains s[j] = true := by
              rw [← UInt8.toNat_inj.1 hx, List.contains_iff_mem]
              exact hmem
            have hR := HR1.out hc
            subst hR
            have gx : ((d.toNat : Int) == (s[j].toNat : Int)) = true := by simp; omega
            clear HR1 HR0 HK hst hx hc hmem
            go_wp2
            go_quiet (fail)
            have z2 := z.drewN nq
            have t2 := tb.drewN nq
            have b2 := below_drewN hB nq
            clear z tb hB
            generalize wr.drewN nq = w2 at *
            obtain ⟨c0, c1, c2, c3⟩ := z2.cells
            obtain ⟨f0, f1, f2, f3⟩ := z2.free
            obtain ⟨d0, d1, d2, d3⟩ := t2.cells
            obtain ⟨e0, e1, e2, e3⟩ := t2.free
            go_wp2
            all_goals refine bodyPost_ret (v := .tuple #[tkA (5, ⟨#[s[j]]⟩, 0, j), .int .i64 ((j + 1 : Nat) : Int), .int .i64 0, .int .i64 0]) (by simp [results, Tryz.results69, go_sem, c0, c1, c2, c3, tkA]) rfl ⟨ones_ok _ _ _, below4 (b2.setCell (by show w.heap.size ≤ w.heap.size + 1; omega) _) _ _ _ _⟩
          · have gx : ((d.toNat : Int) == (s[j].toNat : Int)) = false := by simp; omega
            have HN := hid (hst.trans (by rw [HK.out, decide_eq_false (fun e => hx (by rw [e]))]))
            clear HR1 HR0 HK hst hx hmem
            go_wp2
            go_quiet (fail)
            have z2 := z.drewN nq
            have t2 := tb.drewN nq
            have b2 := below_drewN hB nq
            clear z tb hB
            generalize wr.drewN nq = w2 at *
            go_wp2
            go_roundw
            case rel => exact ⟨k + 1, by omega, by go_num, HN, z2, t2, b2⟩
            case measure => simp only [intOf]; omega
        · obtain rfl : k = 10 := by omega
          have hR := HR0.out HK.out
          subst hR
          obtain ⟨c0, c1, c2, c3⟩ := z.cells
          obtain ⟨f0, f1, f2, f3⟩ := z.free
          obtain ⟨d0, d1, d2, d3⟩ := tb.cells
          obtain ⟨e0, e1, e2, e3⟩ := tb.free
          clear HR1 HR0 HK
          go_wp2
          all_goals refine bodyPost_ret (v := .tuple #[tkA (5, ⟨#[]⟩, 0, j), .int .i64 0, .int .i64 j, .int .i64 4]) (by simp [results, Tryz.results69, go_sem, c0, c1, c2, c3, tkA]) rfl ⟨ones_flt _ _ _ _ (by decide), below4 hB _ _ _ _⟩
  · have g4 : decide ((j : Int) + 1 < (s.size : Int)) = false := by simp; omega
    have h1 := sgn_one hj (fun h => absurd h hj1)
    have HR1 : Hid (sl.contains s[j] = true → sgnW s j = wrd (5, ⟨#[s[j]]⟩, 0, j) (j + 1)) := fun h => by rw [sgnW, h1, h, if_pos rfl, if_neg (by omega), ext_one s j hj]
    have HR0 : Hid (sl.contains s[j] = false → sgnW s j = flt j 4) := fun h => by rw [sgnW, h1, h]; rfl
    have hsl1 := str_slice' s hs j hj
    generalize sgnW s j = RR at *
    clear h1
    go_enter Tryz.func69, Tryz.ntmps69
    go_wp2_with fail
    refine Calls.mono hL.out ?_
    rintro e w1 ⟨rfl, rfl⟩
    clear hL
    go_wp2_with fail
    refine Calls.mono hD.out ?_
    rintro e w1 ⟨rfl, rfl⟩
    clear hD
    go_wp2
    go_loopw [13] (fun i wr => ∃ k : Nat, k ≤ 10 ∧ i = .int .i64 k ∧ Hid ((sl.take k).contains s[j] = false) ∧ Zr wr w.heap.size ∧ Tb wr (w.heap.size + 1) (5, ⟨#[]⟩, 0, j) ∧ Below w.heap.size w wr) (fun i _ => 10 - (intOf i).toNat)
    case atStart => exact ⟨0, by omega, rfl, rfl, two_z w (5, ⟨#[]⟩, 0, (j : Int)), two_t w (5, ⟨#[]⟩, 0, (j : Int)), two_b w (5, ⟨#[]⟩, 0, (j : Int))⟩
    case round =>
      obtain ⟨k, hk, rfl, HK, z, tb, hB⟩ := hrel
      by_cases hlt : k < 10
      · have hidx := sl_index k hlt
        have hix := str_index s j hj
        have hst := cont_step (l := sl) (k := k) (a := s[j]) (d := 0) hlt
        have hmem : sl.getD k 0 ∈ sl := by
          rw [List.getD, List.getElem?_eq_getElem (show k < sl.length from hlt)]
          exact List.getElem_mem _
        generalize sl.getD k 0 = d at *
        by_cases hx : d.toNat = s[j].toNat
        · have hc : sl.contains s[j] = true := by
            rw [← UInt8.toNat_inj.1 hx, List.contains_iff_mem]
            exact hmem
          have hR := HR1.out hc
          subst hR
          have gx : ((d.toNat : Int) == (s[j].toNat : Int)) = true := by simp; omega
          clear HR1 HR0 HK hst hx hc hmem
          go_wp2
          go_quiet (fail)
          have z2 := z.drewN nq
          have t2 := tb.drewN nq
          have b2 := below_drewN hB nq
          clear z tb hB
          generalize wr.drewN nq = w2 at *
          obtain ⟨c0, c1, c2, c3⟩ := z2.cells
          obtain ⟨f0, f1, f2, f3⟩ := z2.free
          obtain ⟨d0, d1, d2, d3⟩ := t2.cells
          obtain ⟨e0, e1, e2, e3⟩ := t2.free
          go_wp2
          all_goals refine bodyPost_ret (v := .tuple #[tkA (5, ⟨#[s[j]]⟩, 0, j), .int .i64 ((j + 1 : Nat) : Int), .int .i64 0, .int .i64 0]) (by simp [results, Tryz.results69, go_sem, c0, c1, c2, c3, tkA]) rfl ⟨ones_ok _ _ _, below4 (b2.setCell (by show w.heap.size ≤ w.heap.size + 1; omega) _) _ _ _ _⟩
        · have gx : ((d.toNat : Int) == (s[j].toNat : Int)) = false := by simp; omega
          have HN := hid (hst.trans (by rw [HK.out, decide_eq_false (fun e => hx (by rw [e]))]))
          clear HR1 HR0 HK hst hx hmem
          go_wp2
          go_quiet (fail)
          have z2 := z.drewN nq
          have t2 := tb.drewN nq
          have b2 := below_drewN hB nq
          clear z tb hB
          generalize wr.drewN nq = w2 at *
          go_wp2
          go_roundw
          case rel => exact ⟨k + 1, by omega, by go_num, HN, z2, t2, b2⟩
          case measure => simp only [intOf]; omega
      · obtain rfl : k = 10 := by omega
        have hR := HR0.out HK.out
        subst hR
        obtain ⟨c0, c1, c2, c3⟩ := z.cells
        obtain ⟨f0, f1, f2, f3⟩ := z.free
        obtain ⟨d0, d1, d2, d3⟩ := tb.cells
        obtain ⟨e0, e1, e2, e3⟩ := tb.free
        clear HR1 HR0 HK
        go_wp2
        all_goals refine bodyPost_ret (v := .tuple #[tkA (5, ⟨#[]⟩, 0, j), .int .i64 0, .int .i64 j, .int .i64 4]) (by simp [results, Tryz.results69, go_sem, c0, c1, c2, c3, tkA]) rfl ⟨ones_flt _ _ _ _ (by decide), below4 hB _ _ _ _⟩

end Go.Proofs.YtnboooaockgoiaaGreatDoor

/- The walks of the document's one and Lex. -/
namespace Go.Proofs.YtnboooaockgoiaaGreatDoor
open Go.RowKit
set_option linter.unusedVariables false

theorem one_any (s : ByteArray) (hs : s.size ≤ 400) (j : Nat) (hj : j < s.size) (w : World) : Calls Tryz.prog 69 #[.string s, .int .i64 (j : Int)] w fun e w' => Ones (oneW s j) e ∧ Below w.heap.size w w' := by
  cases g1 : got isL s j with
  | true => rw [oneW_name g1]; exact one_name s hs j hj g1 w
  | false =>
    cases g2 : got isDig s j with
    | true => rw [oneW_num g1 g2]; exact one_num s hs j hj g1 g2 w
    | false =>
      cases g3 : got (isB 39) s j with
      | true => rw [oneW_quo g1 g2 g3]; exact one_quo s hs j hj g1 g2 g3 w
      | false => rw [oneW_sgn g1 g2 g3]; exact one_sgn s hs j hj g1 g2 g3 w

theorem word_same {s : ByteArray} {k : Nat} (h : got (isB 32) s k = true) : wordW s k = wordW s (k + 1) := by rw [wordW, wordW, till_step h]
theorem Lx.like {s : ByteArray} {k m : Nat} {l : List Tk} {a e : Int} (hw : wordW s k = wordW s m) (h : Lx s m l a e) : Lx s k l a e := by
  rcases h.step with ⟨h1, rfl, rfl, rfl⟩ | ⟨h1, h2, rfl, rfl, rfl⟩ | ⟨h1, h2, n, rfl, rfl, rfl, h3⟩ | ⟨h1, h2, rfl, h4, h3⟩
  · rw [← hw] at h1 ⊢; exact Lx.bad k h1
  · rw [← hw] at h1 h2 ⊢; exact Lx.fin k h1 h2
  · rw [← hw] at h1 h2 h3 ⊢; exact Lx.more k n h1 h2 h3
  · rw [← hw] at h1 h2 h3; exact Lx.far k a e h1 h2 h3 h4
theorem Up.space {s : ByteArray} {k : Nat} {l : List Tk} (u : Up s k l) (h : got (isB 32) s k = true) : Up s (k + 1) l := fun ts a e hx => u ts a e (hx.like (word_same h))
theorem word_one {s : ByteArray} {k : Nat} (hk : k < s.size) (h : got (isB 32) s k = false) : wordW s k = oneW s k := by rw [wordW, till_stop h, endW, if_neg (by omega)]

set_option maxRecDepth 100000 in
set_option maxHeartbeats 2000000 in
theorem refLex_any (s : ByteArray) (hs : s.size ≤ 9223372036854775807) (w : World) : Calls Tryz.prog 37 #[.string s] w fun e w' => ∃ ao n c ts a f, e = .returned (.tuple #[.slice ao n c, .int .i64 a, .int .i64 f]) ∧ RdT w' ao n c ts ∧ LexR s ts a f ∧ Below w.heap.size w w' := by
  by_cases h4 : 400 < s.size
  · go_enter Tryz.func37, Tryz.ntmps37
    go_wp2
    refine bodyPost_ret (v := .tuple #[.slice none 0 0, .int .i64 0, .int .i64 7]) (by simp [results, Tryz.results37]) rfl ⟨none, 0, 0, [], 0, 7, rfl, RdT.nil _, .inl ⟨h4, rfl, rfl, rfl⟩, Below.refl _ _⟩
  · have hs4 : s.size ≤ 400 := by omega
    have HW : Hid (∀ (k : Nat) (w' : World), k < s.size → _) := fun k w' hk => one_any s hs4 k hk w'
    go_enter Tryz.func37, Tryz.ntmps37
    go_wp2
    go_loopw [5, 6] (fun u i wr => ∃ (k : Nat) (l : List Tk), k ≤ s.size ∧ l.length ≤ k ∧ i = .int .i64 k ∧ OwnT w.heap.size wr u l ∧ Below w.heap.size w wr ∧ Hid (Up s k l)) (fun _ i _ => s.size - (intOf i).toNat)
    case atStart => exact ⟨0, [], Nat.zero_le _, Nat.le_refl _, rfl, OwnT.nil _ _, Below.refl _ _, Up.start s⟩
    case round =>
      obtain ⟨k, l, hk, hl, rfl, ho, hB, HU⟩ := hrel
      by_cases hlt : k < s.size
      · by_cases h32 : s[k].toNat = 32
        · have g1 : ((s[k].toNat : Int) == 32) = true := by simp; omega
          have HN := hid (HU.out.space (by rw [got_at hlt]; simp [isB, h32]))
          clear HW HU h32
          go_wp2
          go_roundw
          case rel => exact ⟨k + 1, l, by omega, by omega, by go_num, ho, hB, HN⟩
          case measure => simp only [intOf]; omega
        · have g1 : ((s[k].toNat : Int) == 32) = false := by simp; omega
          have hw := word_one hlt (by rw [got_at hlt]; simp [isB, h32])
          have H : Hid _ := HW.out k wr hlt
          have HE := hid (fun h => HU.out.bad h)
          have HM := hid (fun h1 h2 => HU.out.more h1 h2)
          have HO := hid (oneW_on hlt)
          rw [hw] at HE HM
          generalize oneW s k = W at *
          clear HW HU h32 hw
          obtain ⟨tk, nx, pl, er⟩ := W
          by_cases he : er = 0
          · subst he
            have hon := HO.out rfl
            have h6 : tk.1 ≠ 6 := hon.1
            have hn1 : k < nx := hon.2.1
            have hn2 : nx ≤ s.size := hon.2.2
            have HX := hid (HM.out rfl h6)
            clear hon HO HM HE
            go_wp2_with fail
            refine Calls.mono H.out ?_
            rintro e w1 ⟨⟨t, x, b, rfl, hO1, _⟩, hb1⟩
            obtain ⟨rfl, rfl⟩ : t = tk ∧ x = (nx : Int) := hO1 rfl
            have hB1 := Below.on hB hb1
            have ho1 := ho.later hb1
            clear H hb1 ho hB hO1
            unfold tkA
            go_wp2_with (first | (at_builtin; refine wpList_appT rfl (.tmp 36) (.tmp 38) rfl w.heap.size _ l (w1.heap.size + 1) t rfl rfl ((ho1.alloc _).alloc _) (by simpa using Ct.new (w1.alloc (.cells #[.int .i64 t.1, .string t.2.1, .int .i64 t.2.2.1, .int .i64 t.2.2.2] 91)) t 91) (by omega) (by have := hB1.size; simp; omega) ?_) | fail)
            intro v' w4 hO4 hb4 hk4
            have hB4 : Below w.heap.size w w4 := ((hB1.alloc hB1.size _).alloc (by have := hB1.size; simp; omega) _).trans hb4
            clear hk4 hb4 hB1 ho1
            go_wp2
            go_roundw
            case rel => exact ⟨nx, l ++ [t], hn2, by simp; omega, rfl, hO4, hB4, HX⟩
            case measure => simp only [intOf]; omega
          · have ge : (er == 0) = false := by simpa using he
            have HF := hid (HE.out he)
            clear HO HM HE
            go_wp2_with fail
            refine Calls.mono H.out ?_
            rintro e w1 ⟨⟨t, x, b, rfl, _, hO2⟩, hb1⟩
            obtain rfl : b = pl := hO2 he
            have hB1 := Below.on hB hb1
            clear H hb1 hO2
            unfold tkA
            go_wp2
            refine bodyPost_ret (v := .tuple #[.slice none 0 0, .int .i64 b, .int .i64 er]) (by simp [results, Tryz.results37]) rfl ⟨none, 0, 0, [], b, er, rfl, RdT.nil _, .inr ⟨hs4, HF.out⟩, hB1.alloc hB1.size _⟩
      · obtain rfl : k = s.size := by omega
        have HF := HU.out.fin (by rw [word_end]; rfl) (by rw [word_end]; rfl)
        rw [word_end] at HF
        replace HF : Lx s 0 (l ++ [(6, ⟨#[]⟩, 0, (s.size : Int))]) 0 0 := HF
        replace HF := hid HF
        clear HW HU
        go_wp2_with (first | (at_builtin; refine wpList_appT rfl (.tmp 41) (.tmp 45) rfl w.heap.size _ l wr.heap.size (6, ⟨#[]⟩, 0, (s.size : Int)) rfl rfl (ho.alloc _) (Ct.new wr (6, ⟨#[]⟩, 0, (s.size : Int)) 91) (by omega) (by have := hB.size; simp; omega) ?_) | fail)
        intro v' w4 hO4 hb4 hk4
        have hB4 : Below w.heap.size w w4 := (hB.alloc hB.size _).trans hb4
        obtain ⟨oo, q, hv, hrd⟩ := hO4.rd
        subst hv
        clear hk4 hb4 hB ho
        go_wp2
        refine bodyPost_ret (v := .tuple #[.slice oo (l ++ [((6, ⟨#[]⟩, 0, (s.size : Int)) : Tk)]).length q, .int .i64 0, .int .i64 0]) (by simp [results, Tryz.results37]) rfl ⟨oo, _, q, _, 0, 0, rfl, hrd, .inr ⟨hs4, HF.out⟩, hB4⟩

end Go.Proofs.YtnboooaockgoiaaGreatDoor
