/- The walk of the document's letters. -/
import Derived.Test.YtlnijapabhlbeaaLh
import Derived.Test.YtlnijapabhlbeaaLg
namespace Go.Proofs.Ytlnijapabhlbeaa
open Go.RowKit
set_option linter.unusedVariables false

/-- A word that lies in block r. -/
structure Tb (w : World) (r : Nat) (t : Tk) : Prop where
  row : w.heap[r]? = some (.cells #[.int .i64 t.1, .string t.2.1, .int .i64 t.2.2.1, .int .i64 t.2.2.2] 30 (0, 0))
theorem Tb.lt {w : World} {r : Nat} {t : Tk} (h : Tb w r t) : r < w.heap.size := (Array.getElem?_eq_some_iff.1 h.row).1
theorem Tb.new (w : World) (t : Tk) : Tb (w.alloc (.cells #[.int .i64 t.1, .string t.2.1, .int .i64 t.2.2.1, .int .i64 t.2.2.2] 30)) w.heap.size t := ⟨heap_alloc_new w _⟩
theorem Tb.cells {w : World} {r : Nat} {t : Tk} (h : Tb w r t) : w.cell? ⟨r, 0, none⟩ = some (.int .i64 t.1) ∧ w.cell? ⟨r, 1, none⟩ = some (.string t.2.1) ∧ w.cell? ⟨r, 2, none⟩ = some (.int .i64 t.2.2.1) ∧ w.cell? ⟨r, 3, none⟩ = some (.int .i64 t.2.2.2) := by
  unfold World.cell?; rw [h.row]; exact ⟨rfl, rfl, rfl, rfl⟩
theorem Tb.free {w : World} {r : Nat} {t : Tk} (h : Tb w r t) : w.frozen? ⟨r, 0, none⟩ = false ∧ w.frozen? ⟨r, 1, none⟩ = false ∧ w.frozen? ⟨r, 2, none⟩ = false ∧ w.frozen? ⟨r, 3, none⟩ = false := by
  unfold World.frozen?; rw [h.row]; exact ⟨rfl, rfl, rfl, rfl⟩
theorem Tb.later {w w' : World} {r : Nat} {t : Tk} (h : Tb w r t) (hb : Below w.heap.size w w') : Tb w' r t := ⟨by rw [hb.block r h.lt]; exact h.row⟩
theorem Tb.drewN {w : World} {r : Nat} {t : Tk} (h : Tb w r t) (n : Nat) : Tb (w.drewN n) r t := ⟨h.row⟩
theorem Tb.drew {w : World} {r : Nat} {t : Tk} (h : Tb w r t) : Tb w.drew r t := ⟨h.row⟩
theorem Tb.text {w : World} {r : Nat} {t : Tk} (h : Tb w r t) (s : ByteArray) : Tb (w.setCell ⟨r, 1, none⟩ (.string s)) r (t.1, s, t.2.2.1, t.2.2.2) := ⟨by simp [World.setCell, Array.getElem?_modify, h.row]⟩
theorem Tb.kind {w : World} {r : Nat} {t : Tk} (h : Tb w r t) (k : Int) : Tb (w.setCell ⟨r, 0, none⟩ (.int .i64 k)) r (k, t.2.1, t.2.2.1, t.2.2.2) := ⟨by simp [World.setCell, Array.getElem?_modify, h.row]⟩
theorem Tb.num {w : World} {r : Nat} {t : Tk} (h : Tb w r t) (k : Int) : Tb (w.setCell ⟨r, 2, none⟩ (.int .i64 k)) r (t.1, t.2.1, k, t.2.2.2) := ⟨by simp [World.setCell, Array.getElem?_modify, h.row]⟩
theorem Zr.other {w : World} {r q : Nat} (h : Zr w r) (hr : r ≠ q) (o : Nat) (v : Value) : Zr (w.setCell ⟨q, o, none⟩ v) r := ⟨by rw [Below.heap_setCell _ _ _ _ hr]; exact h.row⟩
theorem Zr.drew {w : World} {r : Nat} (h : Zr w r) : Zr w.drew r := ⟨h.row⟩
theorem Zr.drewN {w : World} {r : Nat} (h : Zr w r) (n : Nat) : Zr (w.drewN n) r := ⟨h.row⟩
theorem below4 {w w' : World} (h : Below w.heap.size w w') (a b c d : Value) : Below w.heap.size w ((((w'.setCell ⟨w.heap.size, 0, none⟩ a).setCell ⟨w.heap.size, 1, none⟩ b).setCell ⟨w.heap.size, 2, none⟩ c).setCell ⟨w.heap.size, 3, none⟩ d) :=
  (((h.setCell (Nat.le_refl _) a).setCell (Nat.le_refl _) b).setCell (Nat.le_refl _) c).setCell (Nat.le_refl _) d

/-- What the document's one tells. -/
def Ones (W : Wr) (e : Ending) : Prop := ∃ (t : Tk) (x b : Int), e = .returned (.tuple #[tkA t, .int .i64 x, .int .i64 b, .int .i64 W.er]) ∧ (W.er = 0 → t = W.tk ∧ x = W.nx) ∧ (W.er ≠ 0 → b = W.pl)
theorem ones_ok (t : Tk) (x : Nat) (b : Int) : Ones (wrd t x) (.returned (.tuple #[tkA t, .int .i64 x, .int .i64 b, .int .i64 0])) := ⟨t, x, b, rfl, fun _ => ⟨rfl, rfl⟩, fun h => absurd rfl h⟩
theorem ones_flt (t : Tk) (x : Int) (b : Nat) (e : Int) (he : e ≠ 0) : Ones (flt b e) (.returned (.tuple #[tkA t, .int .i64 x, .int .i64 b, .int .i64 e])) := ⟨t, x, b, rfl, fun h => absurd h he, fun _ => rfl⟩

theorem str_slice' (s : ByteArray) (hs : s.size ≤ 400) (k : Nat) (h : k < s.size) (w : World) : (Instr.slice 9 (.string s) (some (.int .i64 (k : Int))) (some (.int .i64 ((k : Int) + 1))) none).run Try.prog w = .ok (.string ⟨#[s[k]]⟩) w := by
  have e : s.extract k (k + 1) = ⟨#[s[k]]⟩ := by
    apply ByteArray.ext
    apply Array.toList_inj.1
    have := bs_extract s k (k + 1)
    rw [bs, Nat.add_sub_cancel_left, drop_at h] at this
    exact this
  rw [← e]
  obtain ⟨m, hm⟩ : ∃ m, m = k + 1 := ⟨_, rfl⟩
  have hm2 : (k : Int) + 1 = (m : Int) := by omega
  rw [hm2, ← hm]
  have h1 : k ≤ m := by omega
  have h2 : m ≤ s.size := by omega
  clear hm hm2 e h
  go_simp

set_option maxRecDepth 100000 in
set_option maxHeartbeats 2000000 in
theorem letters_any (s : ByteArray) (hs : s.size ≤ 400) (j : Nat) (hj : j < s.size) (w : World) : Calls Try.prog 31 #[.string s, .int .i64 (j : Int)] w fun e w' => Ones (quoW s j) e ∧ Below w.heap.size w w' := by
  have H1 := hid (fun k l (q : Qv s j k l) => q.close)
  have H2 := hid (fun k l (q : Qv s j k l) => q.bad)
  have HQ := hid (Qv.start s j)
  have hwj : IntKind.i64.wrap ((j : Int) + 1) = j + 1 := by rw [IntKind.wrap_i64]; omega
  generalize quoW s j = RR at *
  go_enter Try.func31, Try.ntmps31
  go_wp2
  go_loopw [9] (fun i wr => ∃ (k : Nat) (l : List UInt8), j + 1 ≤ k ∧ k ≤ s.size ∧ l.length ≤ k ∧ i = .int .i64 k ∧ Hid (Qv s j k l) ∧ Zr wr w.heap.size ∧ Tb wr (w.heap.size + 1) (4, ⟨l.toArray⟩, 0, j) ∧ Below w.heap.size w wr) (fun i _ => s.size - (intOf i).toNat)
  case atStart =>
    have hA := (Below.refl w.heap.size w).alloc (Nat.le_refl _) (.cells #[.int .i64 0, .string ⟨#[]⟩, .int .i64 0, .int .i64 0] 30)
    refine ⟨j + 1, [], Nat.le_refl _, hj, Nat.zero_le _, by go_num, HQ, (Zr.new w).later ((Below.refl _ _).alloc (Nat.le_refl _) _), ?_, hA.alloc (by simp) _⟩
    have := Tb.new (w.alloc (.cells #[.int .i64 0, .string ⟨#[]⟩, .int .i64 0, .int .i64 0] 30)) (4, ⟨#[]⟩, 0, (j : Int))
    simpa using this
  case round =>
    obtain ⟨k, l, hk1, hk, hl, rfl, HD, z, tb, hB⟩ := hrel
    obtain ⟨c0, c1, c2, c3⟩ := z.cells
    obtain ⟨f0, f1, f2, f3⟩ := z.free
    obtain ⟨d0, d1, d2, d3⟩ := tb.cells
    obtain ⟨e0, e1, e2, e3⟩ := tb.free
    by_cases hlt : k < s.size
    · by_cases h32 : s[k].toNat < 32 ∨ 126 < s[k].toNat
      · have hR := H2.out k l HD.out (by rw [got_at hlt]; simp [isB]; omega) (by rw [got_at hlt]; simp [isT]; omega)
        subst hR
        clear H1 H2 HQ HD
        by_cases h32' : s[k].toNat < 32
        · have g1 : decide ((s[k].toNat : Int) < 32) = true := by simp; omega
          clear h32 h32'
          go_wp2
          all_goals refine bodyPost_ret (v := .tuple #[tkA (4, ⟨l.toArray⟩, 0, j), .int .i64 0, .int .i64 k, .int .i64 4]) (by simp [results, Try.results31, go_sem, c0, c1, c2, c3, tkA]) rfl ⟨ones_flt _ _ _ _ (by decide), below4 hB _ _ _ _⟩
        · have g1 : decide ((s[k].toNat : Int) < 32) = false := by simp; omega
          have g2 : decide (126 < (s[k].toNat : Int)) = true := by simp; omega
          clear h32 h32'
          go_wp2
          all_goals refine bodyPost_ret (v := .tuple #[tkA (4, ⟨l.toArray⟩, 0, j), .int .i64 0, .int .i64 k, .int .i64 4]) (by simp [results, Try.results31, go_sem, c0, c1, c2, c3, tkA]) rfl ⟨ones_flt _ _ _ _ (by decide), below4 hB _ _ _ _⟩
      · have g1 : decide ((s[k].toNat : Int) < 32) = false := by simp; omega
        have g2 : decide (126 < (s[k].toNat : Int)) = false := by simp; omega
        have hT : got isT s k = true := by rw [got_at hlt]; simp [isT]; omega
        by_cases h39 : s[k].toNat = 39
        · have g3 : ((s[k].toNat : Int) == 39) = true := by simp; omega
          have hG : got (isB 39) s k = true := by rw [got_at hlt]; simp [isB, h39]
          obtain ⟨m, hm⟩ : ∃ m, m = k + 1 := ⟨_, rfl⟩
          have hm2 : ((k : Int) + 1) = (m : Int) := by omega
          by_cases h2 : got (isB 39) s m = true
          · have hlt2 := got_lt h2
            have g4 : ((s[m].toNat : Int) == 39) = true := by
              rw [got_at hlt2, isB, decide_eq_true_iff] at h2
              simp; omega
            have HN := hid (HD.out.two' hm hlt2 hG h2)
            have hx39 : s[m] = 39 := by
              rw [got_at hlt2, isB, decide_eq_true_iff] at h2
              exact UInt8.toNat_inj.1 h2
            rw [hx39] at HN
            have hcat : (⟨l.toArray⟩ : ByteArray) ++ ⟨#[39]⟩ = ⟨(l ++ [39]).toArray⟩ := cat_lists l [39]
            have hz : (⟨l.toArray⟩ : ByteArray).size ≤ 400 := by rw [sz_mk]; omega
            have hix := str_index s m hlt2
            have hml : l.length ≤ m := by omega
            have hkm : k < m := by omega
            generalize hS1 : (⟨l.toArray⟩ : ByteArray) = S1 at *
            generalize hS2 : (⟨(l ++ [39]).toArray⟩ : ByteArray) = S2 at *
            replace hS1 := hid hS1
            replace hS2 := hid hS2
            have hwm : IntKind.i64.wrap (m : Int) = m := by rw [IntKind.wrap_i64]; omega
            replace hm := hid hm
            clear H1 H2 HQ HD hG h2 h39 hT hx39 h32
            go_wp2
            go_roundw
            case rel =>
              have t2 := tb.text S2
              exact ⟨m + 1, l ++ [39], by omega, by omega, by simp; omega, by go_num, HN, z.other (by omega) _ _, by rw [hS2.out]; exact t2, hB.setCell (by show w.heap.size ≤ w.heap.size + 1; omega) _⟩
            case measure => simp only [intOf]; omega
          · have hF : got (isB 39) s m = false := by simpa using h2
            have hR := H1.out k l HD.out hG (by rw [← hm]; exact hF)
            rw [← hm] at hR
            have hz := sz_mk l
            have hwm : IntKind.i64.wrap (m : Int) = m := by rw [IntKind.wrap_i64]; omega
            replace hm := hid hm
            by_cases hml : m < s.size
            · have g4 : ((s[m].toNat : Int) == 39) = false := by
                rw [got_at hml, isB, decide_eq_false_iff_not] at hF
                simp; omega
              have hix := str_index s m hml
              clear H1 H2 HQ HD hG h2 h39 hT h32 hF
              by_cases h30 : 30 < l.length
              · rw [if_pos h30] at hR
                subst hR
                have g6 : decide ((30 : Int) < ((⟨l.toArray⟩ : ByteArray).size : Int)) = true := by rw [hz]; simp; omega
                generalize hS1 : (⟨l.toArray⟩ : ByteArray) = S1 at *
                replace hS1 := hid hS1
                clear hz
                go_wp2
                all_goals refine bodyPost_ret (v := .tuple #[tkA (4, S1, 0, j), .int .i64 0, .int .i64 j, .int .i64 7]) (by simp [results, Try.results31, go_sem, c0, c1, c2, c3, tkA]) rfl ⟨ones_flt _ _ _ _ (by decide), below4 hB _ _ _ _⟩
              · rw [if_neg h30] at hR
                subst hR
                have g6 : decide ((30 : Int) < ((⟨l.toArray⟩ : ByteArray).size : Int)) = false := by rw [hz]; simp; omega
                generalize hS1 : (⟨l.toArray⟩ : ByteArray) = S1 at *
                replace hS1 := hid hS1
                clear hz
                go_wp2
                all_goals refine bodyPost_ret (v := .tuple #[tkA (4, S1, 0, j), .int .i64 m, .int .i64 0, .int .i64 0]) (by simp [results, Try.results31, go_sem, c0, c1, c2, c3, tkA]) rfl ⟨by rw [hS1.out]; exact ones_ok _ _ _, below4 hB _ _ _ _⟩
            · have g5 : decide ((m : Int) < (s.size : Int)) = false := by simp; omega
              clear H1 H2 HQ HD hG h2 h39 hT h32 hF
              by_cases h30 : 30 < l.length
              · rw [if_pos h30] at hR
                subst hR
                have g6 : decide ((30 : Int) < ((⟨l.toArray⟩ : ByteArray).size : Int)) = true := by rw [hz]; simp; omega
                generalize hS1 : (⟨l.toArray⟩ : ByteArray) = S1 at *
                replace hS1 := hid hS1
                clear hz
                go_wp2
                all_goals refine bodyPost_ret (v := .tuple #[tkA (4, S1, 0, j), .int .i64 0, .int .i64 j, .int .i64 7]) (by simp [results, Try.results31, go_sem, c0, c1, c2, c3, tkA]) rfl ⟨ones_flt _ _ _ _ (by decide), below4 hB _ _ _ _⟩
              · rw [if_neg h30] at hR
                subst hR
                have g6 : decide ((30 : Int) < ((⟨l.toArray⟩ : ByteArray).size : Int)) = false := by rw [hz]; simp; omega
                generalize hS1 : (⟨l.toArray⟩ : ByteArray) = S1 at *
                replace hS1 := hid hS1
                clear hz
                go_wp2
                all_goals refine bodyPost_ret (v := .tuple #[tkA (4, S1, 0, j), .int .i64 m, .int .i64 0, .int .i64 0]) (by simp [results, Try.results31, go_sem, c0, c1, c2, c3, tkA]) rfl ⟨by rw [hS1.out]; exact ones_ok _ _ _, below4 hB _ _ _ _⟩
        · have g3 : ((s[k].toNat : Int) == 39) = false := by simp; omega
          have hG : got (isB 39) s k = false := by rw [got_at hlt]; simp [isB, h39]
          have HN := hid (HD.out.txt hlt hG hT)
          have hsl := str_slice' s hs k hlt
          have hcat : (⟨l.toArray⟩ : ByteArray) ++ ⟨#[s[k]]⟩ = ⟨(l ++ [s[k]]).toArray⟩ := cat_lists l [s[k]]
          have hz : (⟨l.toArray⟩ : ByteArray).size ≤ 400 := by rw [sz_mk]; omega
          generalize hS1 : (⟨l.toArray⟩ : ByteArray) = S1 at *
          generalize hS2 : (⟨(l ++ [s[k]]).toArray⟩ : ByteArray) = S2 at *
          replace hS1 := hid hS1
          replace hS2 := hid hS2
          clear H1 H2 HQ HD hG h39 hT h32
          go_wp2
          go_region
          all_goals
            go_wp2
            go_roundw
          case rel =>
            have t2 := (tb.text S2).drew
            exact ⟨k + 1, l ++ [s[k]], by omega, by omega, by simp; omega, by go_num, HN, (z.other (by omega) _ _).drew, by rw [hS2.out]; exact t2, (hB.setCell (by show w.heap.size ≤ w.heap.size + 1; omega) _).drew⟩
          case measure => simp only [intOf]; omega
    · obtain rfl : k = s.size := by omega
      have hR := H2.out s.size l HD.out (got_end (Nat.le_refl _)) (got_end (Nat.le_refl _))
      subst hR
      clear H1 H2 HQ HD
      go_wp2
      all_goals refine bodyPost_ret (v := .tuple #[tkA (4, ⟨l.toArray⟩, 0, j), .int .i64 0, .int .i64 (s.size : Int), .int .i64 4]) (by simp [results, Try.results31, go_sem, c0, c1, c2, c3, tkA]) rfl ⟨ones_flt _ _ _ _ (by decide), below4 hB _ _ _ _⟩

end Go.Proofs.Ytlnijapabhlbeaa
