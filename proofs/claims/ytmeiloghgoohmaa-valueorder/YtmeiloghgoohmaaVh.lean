/- The walk of ValueAll. -/
import Derived.Test.YtmeiloghgoohmaaVc
import Derived.Test.YtmeiloghgoohmaaVd
import Derived.Test.YtmeiloghgoohmaaVg
namespace Go.Proofs.Ytmeiloghgoohmaa
open Go.RowKit
set_option linter.unusedVariables false

theorem Bx.two (w : World) (k i : Int) (s : ByteArray) (k' i' : Int) (s' : ByteArray) : Bx ((w.alloc (.cells #[.int .i64 k, .int .i64 i, .string s] 24)).alloc (.cells #[.int .i64 k', .int .i64 i', .string s'] 24)) w.heap.size k i s ∧ Bx ((w.alloc (.cells #[.int .i64 k, .int .i64 i, .string s] 24)).alloc (.cells #[.int .i64 k', .int .i64 i', .string s'] 24)) (w.heap.size + 1) k' i' s' ∧ Below w.heap.size w ((w.alloc (.cells #[.int .i64 k, .int .i64 i, .string s] 24)).alloc (.cells #[.int .i64 k', .int .i64 i', .string s'] 24)) :=
  ⟨(Bx.new w k i s 24).later ((Below.refl _ _).alloc (Nat.le_refl _) _), by simpa using Bx.new (w.alloc (.cells #[.int .i64 k, .int .i64 i, .string s] 24)) k' i' s' 24, ((Below.refl _ _).alloc (Nat.le_refl _) _).alloc (by simp) _⟩

theorem mayV_kind {k n : Int} {l : List Int} (h : mayV k n l = true) : (k = 1 ∨ k = 2) ∧ l.length ≤ 30 := by
  rcases mayV_one h with ⟨rfl, rfl⟩ | ⟨rfl, rfl, hl, ht⟩
  · exact ⟨.inl rfl, by simp⟩
  · exact ⟨.inr rfl, hl⟩

set_option maxRecDepth 100000 in
set_option maxHeartbeats 4000000 in
theorem all_any (ao : Option Addr) (n c : Nat) (bs : List Int) (k i : Int) (s : ByteArray) (k' i' : Int) (s' : ByteArray) (w : World) (h : Rd .u8 w ao n c bs) (hf : Fits i) (hf' : Fits i') (hs : s.size ≤ 9223372036854775807) (hs' : s'.size ≤ 9223372036854775807) :
    Calls Try.prog 3 #[.slice ao n c, .agg #[.int .i64 k, .int .i64 i, .string s], .agg #[.int .i64 k', .int .i64 i', .string s']] w fun e w' => e = .returned (.bool true) ∧ Below w.heap.size w w' := by
  obtain ⟨X, Y, hB⟩ := Bx.two w k i s k' i' s'
  have HM : Hid (∀ w, _) := fun w => may_any k i s hs w
  have HR : Hid (∀ w, _) := fun w => refMay_any k i s hs w
  have HR' : Hid (∀ w, _) := fun w => refMay_any k' i' s' hs' w
  have H0 : Hid (∀ w, _) := fun w => begun_any w
  go_enter Try.func3, Try.ntmps3
  go_upto_region 1 with fail
  generalize (w.alloc (.cells #[.int .i64 k, .int .i64 i, .string s] 24)).alloc (.cells #[.int .i64 k', .int .i64 i', .string s'] 24) = W at *
  go_wp2_with fail
  refine Calls.mono (H0.out _) ?_
  rintro e w1 ⟨rfl, hb1⟩
  replace hB := Below.on hB hb1
  replace X := X.later hb1
  replace Y := Y.later hb1
  clear hb1 H0
  by_cases hlong : 300 < n ∨ 300 < s.size ∨ 300 < s'.size
  · obtain ⟨x0, x1, x2⟩ := X
    obtain ⟨y0, y1, y2⟩ := Y
    by_cases h1 : 300 < n
    · go_wp2
      go_ret
      exact ⟨rfl, hB⟩
    have g1 : decide ((300 : Int) < (n : Int)) = false := by simp; omega
    by_cases h2 : 300 < s.size
    · go_wp2
      go_ret
      exact ⟨rfl, hB⟩
    have g2 : decide ((300 : Int) < (s.size : Int)) = false := by simp; omega
    have h3 : 300 < s'.size := by omega
    go_wp2
    go_ret
    exact ⟨rfl, hB⟩
  · have h1 : n ≤ 300 := by omega
    have h2 : s.size ≤ 300 := by omega
    have h3 : s'.size ≤ 300 := by omega
    have g1 : decide ((300 : Int) < (n : Int)) = false := by simp; omega
    have g2 : decide ((300 : Int) < (s.size : Int)) = false := by simp; omega
    have g3 : decide ((300 : Int) < (s'.size : Int)) = false := by simp; omega
    have hnl := nums_len s
    clear hlong
    obtain ⟨x0, x1, x2⟩ := X
    obtain ⟨y0, y1, y2⟩ := Y
    go_upto_region 5 with fail
    go_cut [31] (fun v w' => v = .bool false ∧ Below w1.heap.size w1 w')
    case first =>
      have hC : Below w1.heap.size w1 w1.drew := (Below.refl _ _).drew
      generalize mayV k i (nums s) = M at *
      go_region_held3 (fun w' => w'.cell? ⟨w.heap.size, 0, none⟩ = some (.int .i64 k) ∧ w'.cell? ⟨w.heap.size, 1, none⟩ = some (.int .i64 i) ∧ w'.cell? ⟨w.heap.size, 2, none⟩ = some (.string s)) (exact ⟨cell_later hC x0, cell_later hC x1, cell_later hC x2⟩)
        (first
        | (go_at_call 9; refine Calls.mono (HM.out _) ?_; rintro e z1 ⟨rfl, hc1⟩; replace hC := Below.on hC hc1)
        | (go_at_call 10; refine Calls.mono (HR.out _) ?_; rintro e z2 ⟨rfl, hc2⟩; replace hC := Below.on hC hc2))
      all_goals
        go_wp2_with fail
        go_meet
        exact ⟨by simp, hC⟩
    case rest =>
      obtain ⟨rfl, hbc⟩ := hcut
      replace hB := Below.on hB hbc
      replace x0 := cell_later hbc x0
      replace x1 := cell_later hbc x1
      replace x2 := cell_later hbc x2
      replace y0 := cell_later hbc y0
      replace y1 := cell_later hbc y1
      replace y2 := cell_later hbc y2
      clear hbc HM
      cases em : mayV k i (nums s) with
      | false =>
        rw [em] at HR
        go_wp2_with fail
        refine Calls.mono (HR.out _) ?_
        rintro e w2 ⟨rfl, hb2⟩
        replace hB := Below.on hB hb2
        clear HR HR' em
        go_wp2
        go_ret
        exact ⟨rfl, hB⟩
      | true =>
        rw [em] at HR
        cases em' : mayV k' i' (nums s') with
        | false =>
          rw [em'] at HR'
          go_wp2_with fail
          refine Calls.mono (HR.out _) ?_
          rintro e w2 ⟨rfl, hb2⟩
          replace hB := Below.on hB hb2
          replace y0 := cell_later hb2 y0
          replace y1 := cell_later hb2 y1
          replace y2 := cell_later hb2 y2
          clear HR em em'
          go_wp2_with fail
          refine Calls.mono (HR'.out _) ?_
          rintro e w3 ⟨rfl, hb3⟩
          replace hB := Below.on hB hb3
          clear HR'
          go_wp2
          go_ret
          exact ⟨rfl, hB⟩
        | true =>
          rw [em'] at HR'
          obtain ⟨hk, hk30⟩ := mayV_kind em
          go_wp2_with fail
          refine Calls.mono (HR.out _) ?_
          rintro e w2 ⟨rfl, hb2⟩
          replace hB := Below.on hB hb2
          replace x0 := cell_later hb2 x0
          replace x1 := cell_later hb2 x1
          replace x2 := cell_later hb2 x2
          replace y0 := cell_later hb2 y0
          replace y1 := cell_later hb2 y1
          replace y2 := cell_later hb2 y2
          clear HR hb2
          go_wp2_with fail
          refine Calls.mono (HR'.out _) ?_
          rintro e w3 ⟨rfl, hb3⟩
          replace hB := Below.on hB hb3
          replace x0 := cell_later hb3 x0
          replace x1 := cell_later hb3 x1
          replace x2 := cell_later hb3 x2
          replace y0 := cell_later hb3 y0
          replace y1 := cell_later hb3 y1
          replace y2 := cell_later hb3 y2
          clear HR' hb3
          have na := h.len
          go_wp2_with fail
          refine Calls.mono (twin_any ao n c bs w3 (h.later hB) (by omega)) ?_
          rintro e w4 ⟨rfl, hT, hb4⟩
          obtain ⟨gT, hgT⟩ : ∃ g, g = w3.heap.size := ⟨_, rfl⟩
          rw [← hgT] at hT ⊢
          have hgT4 : gT < w4.heap.size := by
            obtain ⟨b, o, e, hc⟩ := hT.cells (by omega)
            cases e
            exact World.block_lt_of_cell? _ _ (hc 0 (by omega))
          replace hB := Below.on hB hb4
          replace x0 := cell_later hb4 x0
          replace x1 := cell_later hb4 x1
          replace x2 := cell_later hb4 x2
          replace y0 := cell_later hb4 y0
          replace y1 := cell_later hb4 y1
          replace y2 := cell_later hb4 y2
          have hB4s := hB.size
          clear hb4 hgT
          have hTs := hT.sub (lo := 0) (hi := n) (by omega) (by omega) (some ⟨gT, 0, none⟩) n (n + 3) (by omega) (by omega) (fun _ => rfl) (Option.some_ne_none _)
          rw [List.drop_zero, ← na, List.take_left, na] at hTs
          go_wp2_with fail
          refine Calls.mono (key_own (some ⟨gT, 0, none⟩) n (n + 3) bs k i s w4 hTs (by omega) (by omega) hf hk) ?_
          rintro e w5 ⟨vx, rfl, hox, hb5, hnx⟩
          obtain ⟨g2, cap2, cur2, hvx, hg2, hcur, hnc, hcm, hcs⟩ : ∃ g cap, ∃ cur : Array Value, vx = .slice (some ⟨g, 0, none⟩) (bs ++ keyL k i (nums s)).length cap ∧ w4.heap.size ≤ g ∧ w5.heap[g]? = some (.cells cur 5 (0, 0)) ∧ (bs ++ keyL k i (nums s)).length ≤ cap ∧ cap ≤ maxLen ∧ cur.size = cap := by
            rcases hox.2 with ⟨e, _⟩ | ⟨g, cap, cur, e, h1, h2, h3, h4, h5, _⟩
            · exact absurd e hnx
            · exact ⟨g, cap, cur, e, h1, h2, h3, h4, by simpa using h5⟩
          have HK := fun w1 (hb : Below w.heap.size w w1) => refKey_rd ao n c bs k i s w1 (h.later hb) (by omega) (by omega) hf hk
          obtain ⟨XL, HXL, hXl⟩ : ∃ X : List Int, Hid (X = bs ++ keyL k i (nums s)) ∧ X.length ≤ 400 := ⟨_, rfl, by have := keyL_len em; rw [List.length_append]; omega⟩
          rw [← HXL.out] at hox hvx hnc HK
          replace HK : Hid _ := HK
          obtain ⟨xo, xq, hv2, hrx⟩ := hox.rd
          rw [hvx] at hv2 ⊢
          simp only [Value.slice.injEq] at hv2
          obtain ⟨rfl, -, rfl⟩ := hv2
          have hg25 : g2 < w5.heap.size := (Array.getElem?_eq_some_iff.1 hcur).1
          replace hB := Below.on hB hb5
          replace hT := hT.later hb5
          replace x0 := cell_later hb5 x0
          replace x1 := cell_later hb5 x1
          replace x2 := cell_later hb5 x2
          replace y0 := cell_later hb5 y0
          replace y1 := cell_later hb5 y1
          replace y2 := cell_later hb5 y2
          have HC : Hid (∀ w, _) := fun w => compare_any k i s k' i' s' w
          have HC' : Hid (∀ w, _) := fun w => refCompare_any k i s k' i' s' hs hs' w
          rw [refC_eq em em'] at HC'
          generalize cmpV k i (nums s) k' i' (nums s') = C at *
          have hsz5 := hb5.size
          clear hox hnx hvx hTs em em' hb5 HXL
          go_upto_region 11 with fail
          go_cut [9] (fun v w' => v = .bool true ∧ Below w5.heap.size w5 w')
          case first =>
            have hC : Below w5.heap.size w5 w5.drew := (Below.refl _ _).drew
            go_region_held (fun w' => w'.cell? ⟨w.heap.size, 0, none⟩ = some (.int .i64 k) ∧ w'.cell? ⟨w.heap.size, 1, none⟩ = some (.int .i64 i) ∧ w'.cell? ⟨w.heap.size, 2, none⟩ = some (.string s) ∧ w'.cell? ⟨w.heap.size + 1, 0, none⟩ = some (.int .i64 k') ∧ w'.cell? ⟨w.heap.size + 1, 1, none⟩ = some (.int .i64 i') ∧ w'.cell? ⟨w.heap.size + 1, 2, none⟩ = some (.string s')) (exact ⟨cell_later hC x0, cell_later hC x1, cell_later hC x2, cell_later hC y0, cell_later hC y1, cell_later hC y2⟩)
              (first
              | (go_at_call 13; refine Calls.mono (HC.out _) ?_; rintro e z1 ⟨rfl, hc1⟩; replace hC := Below.on hC hc1; have cx := conv_all (hrx.later hC))
              | (go_at_call 14; refine Calls.mono (HC'.out _) ?_; rintro e z2 ⟨rfl, hc2⟩; replace hC := Below.on hC hc2; have cx := conv_all (hrx.later hC))
              | (go_at_call 15; refine Calls.mono (HK.out _ (Below.on hB hC)) ?_; rintro e z3 ⟨yo, yq, rfl, hry, hc3⟩; replace hC := Below.on hC hc3; have cx := conv_all (hrx.later hC); have cy := conv_all hry)
              | (go_at_call 16; refine Calls.mono (kept_any gT ao n c bs _ (hT.later hC) (h.later (Below.on hB hC)) (by omega)) ?_; rintro e z4 ⟨rfl, rfl⟩))
            all_goals
              go_wp2_with fail
              go_meet
              exact ⟨rfl, hC⟩
          case rest =>
            obtain ⟨rfl, hBc⟩ := hcut
            have hcurC : wc.heap[g2]? = some (.cells cur2 5 (0, 0)) := by rw [hBc.block g2 hg25]; exact hcur
            have hcm' : cap2 ≤ 9223372036854775807 := hcm
            go_wp2_with fail
            refine Calls.mono (spoil_any g2 XL.length cap2 cur2 wc hcurC hcs hnc hcm') ?_
            rintro e w6 ⟨rfl, hbut⟩
            have hws : w.heap.size ≤ g2 := Nat.le_trans hB4s hg2
            have hB6 : Below w.heap.size w w6 := hbut.below (Below.on hB hBc) hws
            replace hT := hbut.rd (hT.later hBc) (fun a e => by cases e; show gT ≠ g2; omega)
            clear hbut hcurC hBc hcur hcs hnc hcm hcm' hrx
            go_wp2_with fail
            refine Calls.mono (kept_any gT ao n c bs w6 hT (h.later hB6) (by omega)) ?_
            rintro e w7 ⟨rfl, rfl⟩
            go_wp2
            go_ret
            exact ⟨rfl, hB6⟩

end Go.Proofs.Ytmeiloghgoohmaa
