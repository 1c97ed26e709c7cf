import Derived.Test.YtbmfehacnigknaaQcah
import Derived.Test.YtbmfehacnigknaaQcaa
import Derived.ProofKit
import Derived.OpenShut
import Derived.ShutString
import Derived.ChangeOld
import Derived.Below
import Derived.Deep.Strs
import Derived.ChangeMaps5
import Derived.Test.YtbmfehacnigknaaQcab
import Derived.Deep.Trees
namespace Go.Proofs.Ytbmfehacnigknaa
open Go.RowKit
set_option linter.unusedVariables false
set_option linter.unusedSimpArgs false

theorem evTwo_cmp {op : Int} (hop : 8 ≤ op ∧ op ≤ 13) {a b : Vt} (hk : a.1 = 1 ∨ a.1 = 2) (hab : b.1 = a.1) : evE [] [] (xTwo op a b) = (trV (standsP op (cmpVt a b)), 0) := by
  have hn : ¬ isNumOp op = true := by rw [numOp_is]; omega
  rw [evE_nz, evT_two (u := (litV a, .nil)) (v := (litV b, .nil)) (show 5 ≤ op ∧ op ≤ 13 by omega) rfl]
  have e0 : evT [] [] (litV a, .nil) = (a, 0) := rfl
  have e1 : evT [] [] (litV b, .nil) = (b, 0) := rfl
  rw [e0, e1]
  have h1 : evW op (a, 0) (b, 0) = madeP op [a, b] := rfl
  have h2 : madeP op [a, b] = (trV (standsP op (cmpVt a b)), 0) := by
    unfold madeP
    rw [if_neg hn, if_neg (by omega)]
    show cmpdP op a b = _
    unfold cmpdP
    rw [if_neg (by rw [hab]; omega)]
  show nz (evW op (a, 0) (b, 0)) = _
  rw [h1, h2]
  rfl
theorem nums_nil {s : ByteArray} (h : nums s = []) : s = ⟨#[]⟩ := nums_inj (h.trans rfl)
theorem mayV_gd {k n : Int} {s : ByteArray} (hf : Fits n) (h : mayV k n (nums s) = true) : Gd (k, n, s) ∧ (k = 1 ∨ k = 2) := by
  rcases mayV_one h with ⟨rfl, h1⟩ | ⟨rfl, h1, h2, _⟩
  · rw [nums_nil h1]; exact ⟨⟨hf, Nat.zero_le 500⟩, .inl rfl⟩
  · rw [nums_len] at h2
    exact ⟨⟨hf, by show s.size ≤ 500; omega⟩, .inr rfl⟩
theorem cmpVt_zero {a b : Vt} : cmpVt a b = 0 ↔ a = b := by
  obtain ⟨a0, a1, a2⟩ := a
  obtain ⟨b0, b1, b2⟩ := b
  unfold cmpVt
  rw [cmpV_zero]
  constructor
  · rintro ⟨h1, h2, h3⟩
    dsimp only at *
    rw [h1, h2, nums_inj h3]
  · intro h
    injection h with h1 h2
    injection h2 with h2 h3
    exact ⟨h1, h2, by rw [h3]⟩
theorem runV_ne {k i : Int} {s : ByteArray} {k' i' : Int} {s' : ByteArray} (h : ¬ (k = k' ∧ i = i' ∧ s = s')) (w : World) :
    (binOp .eql 38 (.agg #[.int .i64 k, .int .i64 i, .string s]) (.agg #[.int .i64 k', .int .i64 i', .string s'])).run Try.prog w = .ok (.bool false) w := by
  by_cases h1 : k = k'
  · by_cases h2 : i = i'
    · have h3 : (s.toList == s'.toList) = false := by
        rw [same_nums, decide_eq_false_iff_not]
        intro e
        exact h ⟨h1, h2, nums_inj (lexI_zero e)⟩
      subst h1 h2
      go_simp
    · have h3 : (i == i') = false := by simpa using h2
      have h4 : decide (i = i') = false := by simpa using h2
      subst h1
      go_simp
  · have h3 : (k == k') = false := by simpa using h1
    have h4 : decide (k = k') = false := by simpa using h1
    go_simp
theorem Bk.setK {y : World} {q k : Nat} {arr : Array Value} {t : TypeId} (h : Bk y q (.cells arr t (0, 0))) (u : Value) : Bk (y.setCell ⟨q, k, none⟩ u) q (.cells (arr.setIfInBounds k u) t (0, 0)) := ⟨by simp [World.setCell, Array.getElem?_modify, h.row]⟩
theorem Bk.farS {y : World} {q j b : Nat} {o : Obj} (h : Bk y b o) (hne : b ≠ q) (v : Value) : Bk (y.setCell ⟨q, j, none⟩ v) b o := ⟨(Below.heap_setCell _ _ _ _ hne).trans h.row⟩
set_option maxRecDepth 100000 in
set_option maxHeartbeats 8000000 in
theorem evalCompares_any (a0 a1 : Int) (a2 : ByteArray) (b0 b1 : Int) (b2 : ByteArray) (ha : Fits a1) (hb : Fits b1) (sa : a2.size ≤ 9223372036854775807) (sb : b2.size ≤ 9223372036854775807) (w : World) : Calls Try.prog 6 #[.agg #[.int .i64 a0, .int .i64 a1, .string a2], .agg #[.int .i64 b0, .int .i64 b1, .string b2]] w fun e w' => e = .returned (.bool true) ∧ Below w.heap.size w w' := by
  have H0 : Hid _ := hid begun11_any
  have HMa : Hid _ := hid (refMay_any a0 a1 a2 sa)
  have HMb : Hid _ := hid (refMay_any b0 b1 b2 sb)
  have hw := bal (bal (Below.refl w.heap.size w) (.cells #[.int .i64 a0, .int .i64 a1, .string a2] 38)) (.cells #[.int .i64 b0, .int .i64 b1, .string b2] 38)
  have bA : Bk ((w.alloc (.cells #[.int .i64 a0, .int .i64 a1, .string a2] 38)).alloc (.cells #[.int .i64 b0, .int .i64 b1, .string b2] 38)) w.heap.size (.cells #[.int .i64 a0, .int .i64 a1, .string a2] 38) := (Bk.new w _).later (bal (Below.refl _ _) _)
  have bB : Bk ((w.alloc (.cells #[.int .i64 a0, .int .i64 a1, .string a2] 38)).alloc (.cells #[.int .i64 b0, .int .i64 b1, .string b2] 38)) (w.heap.size + 1) (.cells #[.int .i64 b0, .int .i64 b1, .string b2] 38) := by
    have := Bk.new (w.alloc (.cells #[.int .i64 a0, .int .i64 a1, .string a2] 38)) (.cells #[.int .i64 b0, .int .i64 b1, .string b2] 38)
    rwa [World.size_alloc] at this
  generalize hW : (w.alloc (.cells #[.int .i64 a0, .int .i64 a1, .string a2] 38)).alloc (.cells #[.int .i64 b0, .int .i64 b1, .string b2] 38) = W at hw bA bB
  go_enter Try.func6, Try.ntmps6
  go_wp2_with fail
  refine Calls.mono (H0.out _) ?_
  rintro e w1 ⟨rfl, hb1⟩
  replace hw := Below.on hw hb1
  replace bA := bA.later hb1
  replace bB := bB.later hb1
  clear H0 hb1 hW
  have x0 := bA.cell 0
  have x1 := bA.cell 1
  have x2 := bA.cell 2
  have y0 := bB.cell 0
  have y1 := bB.cell 1
  have y2 := bB.cell 2
  simp only [List.getElem?_toArray, List.getElem?_cons_zero, List.getElem?_cons_succ] at x0 x1 x2 y0 y1 y2
  obtain ⟨ma, hma⟩ : ∃ m, mayV a0 a1 (nums a2) = m := ⟨_, rfl⟩
  obtain ⟨mb, hmb⟩ : ∃ m, mayV b0 b1 (nums b2) = m := ⟨_, rfl⟩
  rw [hma] at HMa
  rw [hmb] at HMb
  cases ma with
  | false =>
    clear HMb bA bB
    go_wp2_with fail
    refine Calls.mono (HMa.out _) ?_
    rintro e w2 ⟨rfl, hb2⟩
    replace hw := Below.on hw hb2
    clear HMa hb2 x0 x1 x2 y0 y1 y2
    go_wp2
    go_ret
    exact ⟨rfl, hw⟩
  | true =>
    go_wp2_with fail
    refine Calls.mono (HMa.out _) ?_
    rintro e w2 ⟨rfl, hb2⟩
    replace hw := Below.on hw hb2
    replace bA := bA.later hb2
    replace bB := bB.later hb2
    replace x0 := cell_later hb2 x0
    replace x1 := cell_later hb2 x1
    replace x2 := cell_later hb2 x2
    replace y0 := cell_later hb2 y0
    replace y1 := cell_later hb2 y1
    replace y2 := cell_later hb2 y2
    clear HMa hb2
    cases mb with
    | false =>
      clear bA bB
      go_wp2_with fail
      refine Calls.mono (HMb.out _) ?_
      rintro e w3 ⟨rfl, hb3⟩
      replace hw := Below.on hw hb3
      clear HMb hb3 x0 x1 x2 y0 y1 y2
      go_wp2
      go_ret
      exact ⟨rfl, hw⟩
    | true =>
      go_wp2_with fail
      refine Calls.mono (HMb.out _) ?_
      rintro e w3 ⟨rfl, hb3⟩
      replace hw := Below.on hw hb3
      replace bA := bA.later hb3
      replace bB := bB.later hb3
      replace x0 := cell_later hb3 x0
      replace x1 := cell_later hb3 x1
      replace x2 := cell_later hb3 x2
      replace y0 := cell_later hb3 y0
      replace y1 := cell_later hb3 y1
      replace y2 := cell_later hb3 y2
      clear HMb hb3
      by_cases hk : a0 = b0
      · subst hk
        obtain ⟨ga, hka⟩ := mayV_gd ha hma
        obtain ⟨gb, -⟩ := mayV_gd hb hmb
        clear hma hmb ha hb sa sb
        have H1 : Hid (∀ k : Nat, k < 6 → ∀ w1 : World, Calls Try.prog 14 #[.slice none 0 0, .slice none 0 0, .agg #[.int .i64 (8 + (k : Int)), .int .i64 0, .int .i64 0, .string ⟨#[]⟩, .string ⟨#[]⟩, .string ⟨#[]⟩, .slice (some ⟨w1.heap.size, 0, none⟩) 2 2]] (w1.alloc (.cells #[.int .i64 1, .int .i64 a0, .int .i64 a1, .string a2, .string ⟨#[]⟩, .string ⟨#[]⟩, .slice none 0 0, .int .i64 1, .int .i64 a0, .int .i64 b1, .string b2, .string ⟨#[]⟩, .string ⟨#[]⟩, .slice none 0 0] 41)) fun en w' => en = .returned (.tuple #[vV (trV (standsP (8 + (k : Int)) (cmpVt (a0, a1, a2) (a0, b1, b2)))), .int .i64 0]) ∧ Below (w1.alloc (.cells #[.int .i64 1, .int .i64 a0, .int .i64 a1, .string a2, .string ⟨#[]⟩, .string ⟨#[]⟩, .slice none 0 0, .int .i64 1, .int .i64 a0, .int .i64 b1, .string b2, .string ⟨#[]⟩, .string ⟨#[]⟩, .slice none 0 0] 41)).heap.size (w1.alloc (.cells #[.int .i64 1, .int .i64 a0, .int .i64 a1, .string a2, .string ⟨#[]⟩, .string ⟨#[]⟩, .slice none 0 0, .int .i64 1, .int .i64 a0, .int .i64 b1, .string b2, .string ⟨#[]⟩, .string ⟨#[]⟩, .slice none 0 0] 41)) w') := hid fun k hk6 w1 => by
          have h := evTwo_any (op := 8 + (k : Int)) (by omega) ga gb _ (xTwo_in (8 + (k : Int)) (a0, a1, a2) (a0, b1, b2) w1)
          rw [evTwo_cmp (a := (a0, a1, a2)) (b := (a0, b1, b2)) (by omega) hka rfl] at h
          exact h
        have hcz := cmpVt_zero (a := (a0, a1, a2)) (b := (a0, b1, b2))
        have HZ : Hid _ := hid hcz
        clear hcz ga gb hka
        generalize cmpVt (a0, a1, a2) (a0, b1, b2) = c at *
        have bR := Bk.new w3 (.cells #[.bool false, .bool false, .bool false, .bool false, .bool false, .bool false] 57)
        have hq5 : w.heap.size + 1 < w3.heap.size := bB.lt
        have hw4 := bal hw (.cells #[.bool false, .bool false, .bool false, .bool false, .bool false, .bool false] 57)
        replace bA := bA.later (bal (Below.refl _ _) (.cells #[.bool false, .bool false, .bool false, .bool false, .bool false, .bool false] 57))
        replace bB := bB.later (bal (Below.refl _ _) (.cells #[.bool false, .bool false, .bool false, .bool false, .bool false, .bool false] 57))
        go_upto_region 6 with fail
        generalize w3.alloc (.cells #[.bool false, .bool false, .bool false, .bool false, .bool false, .bool false] 57) = W4 at *
        generalize w3.heap.size = q5 at *
        clear hw x0 x1 x2 y0 y1 y2
        go_wp2
        go_loopw [6] (fun v6 wr => ∃ (k : Nat) (arr : Array Value), k ≤ 6 ∧ v6 = .int .i64 k ∧ Below w.heap.size w wr ∧ Bk wr w.heap.size (.cells #[.int .i64 a0, .int .i64 a1, .string a2] 38) ∧ Bk wr (w.heap.size + 1) (.cells #[.int .i64 a0, .int .i64 b1, .string b2] 38) ∧ Bk wr q5 (.cells arr 57 (0, 0)) ∧ arr.size = 6 ∧ (∀ j, j < 6 → ∃ b, arr[j]? = some (.bool b)) ∧ Hid (∀ j, j < k → arr[j]? = some (.bool (standsP (8 + (j : Int)) c)))) (fun i _ => 6 - (intOf i).toNat)
        case atStart => exact ⟨0, _, by omega, rfl, hw4, bA, bB, bR, rfl, fun j hj => by
          match j, hj with
          | 0, _ => exact ⟨_, rfl⟩
          | 1, _ => exact ⟨_, rfl⟩
          | 2, _ => exact ⟨_, rfl⟩
          | 3, _ => exact ⟨_, rfl⟩
          | 4, _ => exact ⟨_, rfl⟩
          | 5, _ => exact ⟨_, rfl⟩, hid fun j hj => absurd hj (by omega)⟩
        case round =>
          obtain ⟨k, arr, hk6, rfl, hBr, bAr, bBr, bRr, hsz, hall, Hdone⟩ := hrel
          have x0 := bAr.cell 0
          have x1 := bAr.cell 1
          have x2 := bAr.cell 2
          have y0 := bBr.cell 0
          have y1 := bBr.cell 1
          have y2 := bBr.cell 2
          simp only [List.getElem?_toArray, List.getElem?_cons_zero, List.getElem?_cons_succ] at x0 x1 x2 y0 y1 y2
          clear bA bB bR hw4
          by_cases hlt : k < 6
          · obtain ⟨bk, hbk⟩ := hall k hlt
            have hwK1 : IntKind.i64.wrap (8 + (k : Int)) = 8 + (k : Int) := wrapK (by omega) (by omega)
            have hkI : (k : Int) < 6 := by omega
            obtain ⟨D, hD⟩ : ∃ D, standsP (8 + (k : Int)) c = D := ⟨_, rfl⟩
            have HD : Hid _ := hid hD
            cases D
            · skip
              have HE : Hid (Calls Try.prog 14 #[.slice none 0 0, .slice none 0 0, .agg #[.int .i64 (8 + (k : Int)), .int .i64 0, .int .i64 0, .string ⟨#[]⟩, .string ⟨#[]⟩, .string ⟨#[]⟩, .slice (some ⟨wr.heap.size, 0, none⟩) 2 2]] (wr.alloc (.cells #[.int .i64 1, .int .i64 a0, .int .i64 a1, .string a2, .string ⟨#[]⟩, .string ⟨#[]⟩, .slice none 0 0, .int .i64 1, .int .i64 a0, .int .i64 b1, .string b2, .string ⟨#[]⟩, .string ⟨#[]⟩, .slice none 0 0] 41)) fun en w' => en = .returned (.tuple #[.agg #[.int .i64 3, .int .i64 0, .string ⟨#[]⟩], .int .i64 0]) ∧ Below (wr.alloc (.cells #[.int .i64 1, .int .i64 a0, .int .i64 a1, .string a2, .string ⟨#[]⟩, .string ⟨#[]⟩, .slice none 0 0, .int .i64 1, .int .i64 a0, .int .i64 b1, .string b2, .string ⟨#[]⟩, .string ⟨#[]⟩, .slice none 0 0] 41)).heap.size (wr.alloc (.cells #[.int .i64 1, .int .i64 a0, .int .i64 a1, .string a2, .string ⟨#[]⟩, .string ⟨#[]⟩, .slice none 0 0, .int .i64 1, .int .i64 a0, .int .i64 b1, .string b2, .string ⟨#[]⟩, .string ⟨#[]⟩, .slice none 0 0] 41)) w') := hid (by have h := H1.out k hlt wr; rw [hD] at h; exact h)
              clear hD
              go_wp2_with fail
              refine Calls.mono HE.out ?_
              rintro e w5 ⟨rfl, hb5⟩
              have hb6 := bal (Below.on (bal (Below.refl _ wr) (.cells #[.int .i64 1, .int .i64 a0, .int .i64 a1, .string a2, .string ⟨#[]⟩, .string ⟨#[]⟩, .slice none 0 0, .int .i64 1, .int .i64 a0, .int .i64 b1, .string b2, .string ⟨#[]⟩, .string ⟨#[]⟩, .slice none 0 0] 41)) hb5) (.cells #[.int .i64 3, .int .i64 0, .string ⟨#[]⟩] 38)
              have bV := Bk.new w5 (.cells #[.int .i64 3, .int .i64 0, .string ⟨#[]⟩] 38)
              go_upto_region 10 with fail
              generalize w5.alloc (.cells #[.int .i64 3, .int .i64 0, .string ⟨#[]⟩] 38) = Y at *
              have v0 := bV.cell 0
              have v1 := bV.cell 1
              simp only [List.getElem?_toArray, List.getElem?_cons_zero, List.getElem?_cons_succ] at v0 v1
              replace hBr := Below.on hBr hb6
              replace bAr := bAr.later hb6
              replace bBr := bBr.later hb6
              replace bRr := bRr.later hb6
              have rk := bRr.cell k
              rw [hbk] at rk
              have rf := bRr.free k
              have rl := bRr.lt
              clear HE hb5 hb6 bV x0 x1 x2 y0 y1 y2
              go_wp2
              go_roundw
              case rel => exact ⟨k + 1, arr.setIfInBounds k (.bool false), hlt, by go_num, hBr.setCell (show w.heap.size ≤ q5 by omega) _, bAr.farS (by omega) _, bBr.farS (by omega) _, bRr.setK _, by rw [Array.size_setIfInBounds]; exact hsz, fun j hj => by
                rw [Array.getElem?_setIfInBounds]
                split
                · rw [if_pos (by omega)]; exact ⟨_, rfl⟩
                · exact hall j hj, hid fun j hj => by
                rw [Array.getElem?_setIfInBounds]
                split
                · rename_i hjk
                  subst hjk
                  rw [if_pos (by omega)]
                  exact congrArg (fun z => some (Value.bool z)) HD.out.symm
                · exact Hdone.out j (by omega)⟩
              case measure => simp only [intOf]; omega
            · skip
              have HE : Hid (Calls Try.prog 14 #[.slice none 0 0, .slice none 0 0, .agg #[.int .i64 (8 + (k : Int)), .int .i64 0, .int .i64 0, .string ⟨#[]⟩, .string ⟨#[]⟩, .string ⟨#[]⟩, .slice (some ⟨wr.heap.size, 0, none⟩) 2 2]] (wr.alloc (.cells #[.int .i64 1, .int .i64 a0, .int .i64 a1, .string a2, .string ⟨#[]⟩, .string ⟨#[]⟩, .slice none 0 0, .int .i64 1, .int .i64 a0, .int .i64 b1, .string b2, .string ⟨#[]⟩, .string ⟨#[]⟩, .slice none 0 0] 41)) fun en w' => en = .returned (.tuple #[.agg #[.int .i64 3, .int .i64 1, .string ⟨#[]⟩], .int .i64 0]) ∧ Below (wr.alloc (.cells #[.int .i64 1, .int .i64 a0, .int .i64 a1, .string a2, .string ⟨#[]⟩, .string ⟨#[]⟩, .slice none 0 0, .int .i64 1, .int .i64 a0, .int .i64 b1, .string b2, .string ⟨#[]⟩, .string ⟨#[]⟩, .slice none 0 0] 41)).heap.size (wr.alloc (.cells #[.int .i64 1, .int .i64 a0, .int .i64 a1, .string a2, .string ⟨#[]⟩, .string ⟨#[]⟩, .slice none 0 0, .int .i64 1, .int .i64 a0, .int .i64 b1, .string b2, .string ⟨#[]⟩, .string ⟨#[]⟩, .slice none 0 0] 41)) w') := hid (by have h := H1.out k hlt wr; rw [hD] at h; exact h)
              clear hD
              go_wp2_with fail
              refine Calls.mono HE.out ?_
              rintro e w5 ⟨rfl, hb5⟩
              have hb6 := bal (Below.on (bal (Below.refl _ wr) (.cells #[.int .i64 1, .int .i64 a0, .int .i64 a1, .string a2, .string ⟨#[]⟩, .string ⟨#[]⟩, .slice none 0 0, .int .i64 1, .int .i64 a0, .int .i64 b1, .string b2, .string ⟨#[]⟩, .string ⟨#[]⟩, .slice none 0 0] 41)) hb5) (.cells #[.int .i64 3, .int .i64 1, .string ⟨#[]⟩] 38)
              have bV := Bk.new w5 (.cells #[.int .i64 3, .int .i64 1, .string ⟨#[]⟩] 38)
              go_upto_region 10 with fail
              generalize w5.alloc (.cells #[.int .i64 3, .int .i64 1, .string ⟨#[]⟩] 38) = Y at *
              have v0 := bV.cell 0
              have v1 := bV.cell 1
              simp only [List.getElem?_toArray, List.getElem?_cons_zero, List.getElem?_cons_succ] at v0 v1
              replace hBr := Below.on hBr hb6
              replace bAr := bAr.later hb6
              replace bBr := bBr.later hb6
              replace bRr := bRr.later hb6
              have rk := bRr.cell k
              rw [hbk] at rk
              have rf := bRr.free k
              have rl := bRr.lt
              clear HE hb5 hb6 bV x0 x1 x2 y0 y1 y2
              go_wp2
              go_roundw
              case rel => exact ⟨k + 1, arr.setIfInBounds k (.bool true), hlt, by go_num, hBr.setCell (show w.heap.size ≤ q5 by omega) _, bAr.farS (by omega) _, bBr.farS (by omega) _, bRr.setK _, by rw [Array.size_setIfInBounds]; exact hsz, fun j hj => by
                rw [Array.getElem?_setIfInBounds]
                split
                · rw [if_pos (by omega)]; exact ⟨_, rfl⟩
                · exact hall j hj, hid fun j hj => by
                rw [Array.getElem?_setIfInBounds]
                split
                · rename_i hjk
                  subst hjk
                  rw [if_pos (by omega)]
                  exact congrArg (fun z => some (Value.bool z)) HD.out.symm
                · exact Hdone.out j (by omega)⟩
              case measure => simp only [intOf]; omega
          · obtain rfl : k = 6 := by omega
            have r0 := bRr.cell 0
            have r1 := bRr.cell 1
            have r2 := bRr.cell 2
            have r3 := bRr.cell 3
            have r4 := bRr.cell 4
            have r5 := bRr.cell 5
            rw [Hdone.out 0 (by omega)] at r0
            rw [Hdone.out 1 (by omega)] at r1
            rw [Hdone.out 2 (by omega)] at r2
            rw [Hdone.out 3 (by omega)] at r3
            rw [Hdone.out 4 (by omega)] at r4
            rw [Hdone.out 5 (by omega)] at r5
            rw [show standsP (8 + ((0 : Nat) : Int)) c = decide (c = 0) from rfl] at r0
            rw [show standsP (8 + ((1 : Nat) : Int)) c = !decide (c = 0) from rfl] at r1
            rw [show standsP (8 + ((2 : Nat) : Int)) c = decide (c < 0) from rfl] at r2
            rw [show standsP (8 + ((3 : Nat) : Int)) c = decide (c ≤ 0) from rfl] at r3
            rw [show standsP (8 + ((4 : Nat) : Int)) c = decide (0 < c) from rfl] at r4
            rw [show standsP (8 + ((5 : Nat) : Int)) c = decide (0 ≤ c) from rfl] at r5
            clear Hdone hall bAr bBr bRr hsz H1
            rcases (show c < 0 ∨ c = 0 ∨ 0 < c by omega) with hc | hc | hc
            · have hne : ¬ ((a0, a1, a2) : Vt) = (a0, b1, b2) := fun h => absurd (HZ.out.2 h) (by omega)
              have hrq := fun w => runV_ne (k := a0) (i := a1) (s := a2) (k' := a0) (i' := b1) (s' := b2) (fun h => hne (by rw [h.2.1, h.2.2])) w
              clear hne
              rw [show decide (c = 0) = false from by simp; omega] at r0
              rw [show (!decide (c = 0)) = true from by simp; omega] at r1
              rw [show decide (c < 0) = true from by simp; omega] at r2
              rw [show decide (c ≤ 0) = true from by simp; omega] at r3
              rw [show decide (0 < c) = false from by simp; omega] at r4
              rw [show decide (0 ≤ c) = false from by simp; omega] at r5
              clear HZ hc
              go_wp2
              go_quiet (fail)
              go_wp2
              go_ret
              exact ⟨rfl, below_drewN hBr _⟩
            · have hne := HZ.out.1 hc
              injection hne with _ hne2
              injection hne2 with hne3 hne4
              subst hne3
              subst hne4
              have hrq := fun w => runV_eq a0 a1 a2 w
              rw [show decide (c = 0) = true from by simp [hc]] at r0
              rw [show (!decide (c = 0)) = false from by simp [hc]] at r1
              rw [show decide (c < 0) = false from by simp; omega] at r2
              rw [show decide (c ≤ 0) = true from by simp; omega] at r3
              rw [show decide (0 < c) = false from by simp; omega] at r4
              rw [show decide (0 ≤ c) = true from by simp; omega] at r5
              clear HZ hc
              go_wp2
              go_quiet (fail)
              go_wp2
              go_ret
              exact ⟨rfl, below_drewN hBr _⟩
            · have hne : ¬ ((a0, a1, a2) : Vt) = (a0, b1, b2) := fun h => absurd (HZ.out.2 h) (by omega)
              have hrq := fun w => runV_ne (k := a0) (i := a1) (s := a2) (k' := a0) (i' := b1) (s' := b2) (fun h => hne (by rw [h.2.1, h.2.2])) w
              clear hne
              rw [show decide (c = 0) = false from by simp; omega] at r0
              rw [show (!decide (c = 0)) = true from by simp; omega] at r1
              rw [show decide (c < 0) = false from by simp; omega] at r2
              rw [show decide (c ≤ 0) = false from by simp; omega] at r3
              rw [show decide (0 < c) = true from by simp; omega] at r4
              rw [show decide (0 ≤ c) = true from by simp; omega] at r5
              clear HZ hc
              go_wp2
              go_quiet (fail)
              go_wp2
              go_ret
              exact ⟨rfl, below_drewN hBr _⟩
      · have g1 : (a0 != b0) = true := by simpa using hk
        have g2 : decide (a0 = b0) = false := by simpa using hk
        clear bA bB
        go_wp2
        go_ret
        exact ⟨rfl, hw⟩

end Go.Proofs.Ytbmfehacnigknaa
namespace Go.Proofs.Ytbmfehacnigknaa
open Go.ChangeShapes Go.WideShapes Go.ChangeAt Go.RowKit
set_option linter.unusedVariables false

theorem own : ownKnob Try.prog.godebug = none := by kernel_rfl
theorem laidOut : laidOutB Try.prog = true := by kernel_rfl

end Go.Proofs.Ytbmfehacnigknaa
namespace Go.Proofs.Ytbmfehacnigknaa
open Go.ChangeShapes Go.WideShapes Go.ChangeAt Go.RowKit
set_option linter.unusedVariables false
set_option linter.unusedSimpArgs false

theorem cVal : Try.prog.cellsOf 38 = 3 := by kernel_rfl
theorem cI64 : Try.prog.cellsOf 2 = 1 := by kernel_rfl
theorem cInt : Try.prog.cellsOf 3 = 1 := by kernel_rfl
theorem cStr : Try.prog.cellsOf 9 = 1 := by kernel_rfl
set_option maxRecDepth 100000 in
theorem open_value {H : Type} {enc : TypeId × Value → H} {W : World} {r : Reach} {b0 base : Nat} {sp : Nat → Bool} {held : Bool} {v : Value} {d : DataW H} {ps : List MemPlace} (hval : Value.okWide Try.prog W r b0 38 v) (hd : DataW.Trod enc Try.prog W base sp held 38 v d ps) :
    ∃ (k n : Int) (s : ByteArray), v = .agg #[.int .i64 k, .int .i64 n, .string s] ∧ (Lit.int .i64 k).wf = true ∧ (Lit.int .i64 n).wf = true ∧ s.size ≤ maxLen := by
  obtain ⟨cs, rfl, hsz⟩ := okWide_struct Try.underlying38 hval
  rw [cVal] at hsz
  obtain ⟨l⟩ := cs
  match l, hsz with
  | [c0, c1, c2], _ =>
  obtain ⟨fuel, hf⟩ := hd
  obtain ⟨y0, y1, y2, m, hx, _, hy0, hy1, hy2⟩ := Go.Deep.trod_struct3 Try.underlying38 hf
  obtain ⟨a, e0, rfl, wa⟩ := DataW.trod_int Try.underlying3 hy0
  obtain ⟨b, e1, rfl, wb⟩ := DataW.trod_int Try.underlying2 hy1
  obtain ⟨s, e2, rfl, ws⟩ := DataW.trod_string Try.underlying9 hy2
  simp [Value.cells, cInt, cI64, cStr] at e0 e1 e2
  subst e0 e1 e2
  exact ⟨a, b, s, rfl, wa, wb, ws⟩
end Go.Proofs.Ytbmfehacnigknaa
