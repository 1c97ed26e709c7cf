import Derived.Test.YtnboooaockgoiabMal
/- SchemaMost: the walk. -/
namespace Go.Proofs.Ytnboooaockgoiab
open Go.RowKit
set_option linter.unusedVariables false
set_option linter.unusedSimpArgs false

def cC (c : Co) : List Value := [.string c.1, .int .i64 c.2.1, .string c.2.2]
theorem OwnR.sto {ty k B : Nat} {w : World} {v : Value} {css : List (List Value)} (h : OwnR ty k B w v css) {q : Nat} (hq : q < B) (o : Nat) (u : Value) : OwnR ty k B (w.setCell ⟨q, o, none⟩ u) v css := by
  refine ⟨h.1, h.2.1, ?_⟩
  rcases h.2.2 with k | ⟨b, cap, cur, hv, hg', hh, r⟩
  · exact .inl k
  · exact .inr ⟨b, cap, cur, hv, hg', by rw [Below.heap_setCell _ _ _ _ (show b ≠ q by omega)]; exact hh, r⟩
theorem colsA_succ (j : Nat) : (colsA (j + 1)).map cC = (colsA j).map cC ++ [cC (colA j)] := by
  rw [colsA, List.range_succ, List.map_append, List.map_append]; rfl
theorem colsA_row {B : Nat} {w : World} {v : Value} {k : Nat} (h : OwnR 36 3 B w v ((colsA k).map cC)) : RowIs eCol (fun _ => True) w v (colsA k) :=
  OwnR.rowE (e := eCol) h (by simp) (fun b hb _ => trivial) fun i h1 h2 => by
    show ((colsA k).map cC)[i] = [.string (colsA k)[i].1, .int .i64 (colsA k)[i].2.1, .string (colsA k)[i].2.2]
    rw [List.getElem_map]; rfl
abbrev sA (i : Nat) (v : Sl) : Sv := ⟨1, ⟨#[]⟩, chA i, v, (none, 0, 0), (none, 0, 0), (none, 0, 0), ⟨#[]⟩, (none, 0, 0), (none, 0, 0), (none, 0, 0), false, (none, 0, 0)⟩
abbrev svO0 (s : Sv) : Obj := .cells #[.int .i64 s.k, .string s.tb, .string s.nm, .slice s.co.1 s.co.2.1 s.co.2.2, .slice s.ta.1 s.ta.2.1 s.ta.2.2, .slice s.va.1 s.va.2.1 s.va.2.2, .slice s.it.1 s.it.2.1 s.it.2.2, .string s.jn, .slice s.on.1 s.on.2.1 s.on.2.2, .slice s.wh.1 s.wh.2.1 s.wh.2.2, .slice s.od.1 s.od.2.1 s.od.2.2, .bool s.ds, .slice s.inn.1 s.inn.2.1 s.inn.2.2] 34 (0, 0)
def TT (K i : Nat) : List Tbl := if K = 0 ∨ 6 < K then [] else tabsA K i
def VV (K i : Nat) : List Vw := if K = 0 ∨ 6 < K then [] else vwsA i
/-- What holds ahead of each round. -/
structure MoI (w : World) (q5 K : Nat) (wr : World) (i : Nat) (ta : Option Addr) (tn tc : Nat) (vb : Option Addr) (vm vd : Nat) : Prop where
  below : Below w.heap.size w wr
  box : Bk wr q5 (.cells #[.slice ta tn tc, .slice vb vm vd] 26)
  tabs : RowIs eTbl (fun b => q5 < b) wr (.slice ta tn tc) (TT K i)
  vws : RowIs eVw (fun b => q5 < b) wr (.slice vb vm vd) (VV K i)

set_option maxRecDepth 100000 in
set_option maxHeartbeats 8000000 in
theorem schemaMost_any (n c : Nat) (hn : n ≤ 255) (hc : c ≤ 255) (w : World) : Calls Try.prog 3 #[.int .u8 (n : Int), .int .u8 (c : Int)] w fun e w' => e = .returned (.bool true) ∧ Below w.heap.size w w' := by
  have H0 : Hid _ := hid (begun9_any w)
  obtain ⟨N, hN⟩ : ∃ N, n % 12 = N := ⟨_, rfl⟩
  obtain ⟨K, hK⟩ : ∃ K, c % 9 = K := ⟨_, rfl⟩
  have hN12 : N < 12 := by omega
  have hK9 : K < 9 := by omega
  have nt : (n : Int).tmod 12 = (N : Int) := by rw [Int.tmod_eq_emod_of_nonneg (by omega)]; omega
  have ct : (c : Int).tmod 9 = (K : Int) := by rw [Int.tmod_eq_emod_of_nonneg (by omega)]; omega
  go_enter Try.func3, Try.ntmps3
  go_wp2_with fail
  refine Calls.mono H0.out ?_
  rintro e U0 ⟨rfl, hw⟩
  have hw1 := bal hw (.cells #[.slice none 0 0, .slice none 0 0] 26)
  have bx := Bk.new U0 (.cells #[.slice none 0 0, .slice none 0 0] 26)
  have hws := hw.size
  clear H0
  go_upto_region 5 with fail
  generalize U0.alloc (.cells #[.slice none 0 0, .slice none 0 0] 26) = W1 at *
  generalize U0.heap.size = q5 at *
  have hI0 : MoI w q5 K W1 0 none 0 0 none 0 0 := ⟨hw1, bx, by
    have e : TT K 0 = [] := by unfold TT; split <;> rfl
    rw [e]; exact RowIs.nil _ _ _, by
    have e : VV K 0 = [] := by unfold VV; split <;> rfl
    rw [e]; exact RowIs.nil _ _ _⟩
  clear hw hw1 bx
  go_wp2
  go_loopw [7] (fun v7 wr => ∃ (i : Nat) (ta : Option Addr) (tn tc : Nat) (vb : Option Addr) (vm vd : Nat), i ≤ N ∧ v7 = .int .i64 i ∧ Hid (MoI w q5 K wr i ta tn tc vb vm vd)) (fun i _ => N - (intOf i).toNat)
  case atStart => exact ⟨0, none, 0, 0, none, 0, 0, Nat.zero_le _, rfl, hid hI0⟩
  case round =>
    clear hI0
    obtain ⟨i, ta, tn, tc, vb, vm, vd, hiN, rfl, HI⟩ := hrel
    by_cases hlt : i < N
    · obtain ⟨wo, rfl⟩ : ∃ wo, wo = wr := ⟨wr, rfl⟩
      have hi12 : i < 12 := by omega
      have hltI : (i : Int) < (N : Int) := by omega
      have hcv := chA_conv wo hi12
      have hB8 := bal (bal (Below.refl _ wo) (.cells #[.int .u8 (97 + (i : Int))] 5)) (svO0 (sA i (none, 0, 0)))
      have bs8 := Bs.new (wo.alloc (.cells #[.int .u8 (97 + (i : Int))] 5)) (sA i (none, 0, 0))
      rw [World.size_alloc] at bs8
      have hq8 : wo.heap.size < wo.heap.size + 1 := Nat.lt_succ_self _
      have hs8 : wo.heap.size + 1 + 1 ≤ ((wo.alloc (.cells #[.int .u8 (97 + (i : Int))] 5)).alloc (svO0 (sA i (none, 0, 0)))).heap.size := by simp
      go_upto_region 9 with fail
      generalize (wo.alloc (.cells #[.int .u8 (97 + (i : Int))] 5)).alloc (.cells #[.int .i64 1, .string ⟨#[]⟩, .string (chA i), .slice none 0 0, .slice none 0 0, .slice none 0 0, .slice none 0 0, .string ⟨#[]⟩, .slice none 0 0, .slice none 0 0, .slice none 0 0, .bool false, .slice none 0 0] 34) = W8 at *
      generalize wo.heap.size + 1 = q8 at *
      have ho8 : OwnR 36 3 (q8 + 1) W8 (.slice none 0 0) ((colsA 0).map cC) := OwnR.nil _ _ _ _
      clear hcv
      go_wp2
      go_loopw [9] (fun v9 w2 => ∃ (j : Nat) (v : Sl), j ≤ K ∧ v9 = .int .i64 j ∧ Below wo.heap.size wo w2 ∧ q8 + 1 ≤ w2.heap.size ∧ Bs w2 q8 (sA i v) ∧ OwnR 36 3 (q8 + 1) w2 (slV v) ((colsA j).map cC)) (fun j _ => K - (intOf j).toNat)
      case atStart => exact ⟨0, (none, 0, 0), Nat.zero_le _, rfl, hB8, hs8, bs8, ho8⟩
      case round =>
        clear hB8 hs8 bs8 ho8
        obtain ⟨j, v, hjK, rfl, hB2, hs2, bs2, ho2⟩ := hrel
        by_cases hjlt : j < K
        · have hj12 : j < 12 := by omega
          have hjI : (j : Int) < (K : Int) := by omega
          have jt : (j : Int).tmod 2 = ((j % 2 : Nat) : Int) := by rw [Int.tmod_eq_emod_of_nonneg (by omega)]; omega
          have hj2 : j % 2 ≤ 1 := by omega
          have hcv := chA_conv wr hj12
          have c3 := bs2.cells.2.2.2.1
          have hbA := bal (bal (Below.refl _ wr) (.cells #[.int .u8 (97 + (j : Int))] 5)) (.cells #[.string (chA j), .int .i64 (1 + ((j % 2 : Nat) : Int)), .string ⟨#[]⟩] 36)
          have ho5 := ho2.later hbA
          have hb5 := bs2.later hbA
          have hl5 : ((colsA j).map cC).length ≤ 1000 := by simp [colsA]; omega
          have hblk := ho2.blk
          have hm1 : IntKind.i64.wrap (1 + ((j % 2 : Nat) : Int)) = 1 + ((j % 2 : Nat) : Int) := by rw [IntKind.wrap_i64]; omega
          generalize hjm : j % 2 = jm at *
          obtain ⟨va, vn, vc⟩ := v
          have hs5 : q8 + 1 ≤ ((wr.alloc (.cells #[.int .u8 (97 + (j : Int))] 5)).alloc (.cells #[.string (chA j), .int .i64 (1 + (jm : Int)), .string ⟨#[]⟩] 36)).heap.size := by simp; omega
          go_wp2_with (first | (at_builtin; refine wpList_appR Try.underlying28 Try.infoZCol rfl (by decide) (by decide) rfl (.tmp 41) (.tmp 51) rfl (.slice va vn vc) _ (wr.heap.size + 1) [.string (chA j), .int .i64 (1 + (jm : Int)), .string ⟨#[]⟩] rfl rfl ho5 rfl (by simp [Value.oneCell']) ?_ hl5 hs5 ?_) | fail)
          · intro v' w6 hO6 hg6 hown
            have hq8l : q8 < wr.heap.size := by omega
            have hb6 : Bs w6 q8 (sA i (va, vn, vc)) := hb5.keep (hg6.block q8 (by omega) fun e => by have := (hblk q8 e.symm).1; omega)
            have hs6 : q8 + 1 ≤ w6.heap.size := Nat.le_trans hs5 hg6.size
            have hB6 : Below wo.heap.size wo w6 := Below.grownR (Below.on hB2 hbA) (Below.on hB2 hbA).size hg6 fun k e => by have := (hblk k e).1; omega
            obtain ⟨a6, n6, c6, rfl⟩ := hO6.sl
            have d3 := hb6.cells.2.2.2.1
            have f3 := hb6.free.2.2.2.1
            have hb7 := hb6.set3 (a6, n6, c6)
            have hO7 := hO6.sto (q := q8) (by omega) 3 (.slice a6 n6 c6)
            have hB7 : Below wo.heap.size wo (w6.setCell ⟨q8, 3, none⟩ (.slice a6 n6 c6)) := hB6.setCell (by show wo.heap.size ≤ q8; omega) _
            have hs7 : q8 + 1 ≤ (w6.setCell ⟨q8, 3, none⟩ (.slice a6 n6 c6)).heap.size := by simp [World.setCell]; omega
            have hcs : (colsA j).map cC ++ [[.string (chA j), .int .i64 (1 + (jm : Int)), .string ⟨#[]⟩]] = (colsA (j + 1)).map cC := by rw [colsA_succ, cC, colA, hjm]
            rw [hcs] at hO7
            clear hcs hb6 hO6 hg6 hown ho5 hb5 hbA hB6 hs6 ho2 bs2 hB2 hcv c3
            replace hO7 : Hid _ := hid hO7
            go_wp2
            go_roundw
            case rel => exact ⟨j + 1, (a6, n6, c6), hjlt, by go_num, hB7, hs7, hb7, hO7.out⟩
            case measure => simp only [intOf]; omega
        · have hjK' : j = K := by omega
          subst hjK'
          obtain ⟨va, vn, vc⟩ := v
          have hI := HI.out
          have bx := hI.box.later hB2
          have hq5 : q5 < wo.heap.size := hI.box.lt
          have rT := hI.tabs.keep (by decide) (fun b _ hl => hB2.block b hl)
          have rV := hI.vws.keep (by decide) (fun b _ hl => hB2.block b hl)
          have rC := colsA_row ho2
          have hW := Below.trans hI.below (hB2.mono hI.below.size)
          have hTB : AllB TblB (TT j i) := by unfold TT; split; (· exact ⟨by simp, by simp⟩); exact tabsA_B hK9 i
          have hVB : AllB VwB (VV j i) := by unfold VV; split; (· exact ⟨by simp, by simp⟩); exact vwsA_B i
          have hT4 : (TT j i).length ≤ 400 := by unfold TT; split <;> simp [tabsA]; omega
          have hV4 : (VV j i).length ≤ 400 := by unfold VV; split <;> simp [vwsA]; omega
          have HA := addTbl_any hTB hVB hT4 (colsA_B hK9) (rT.any (by decide)) (rV.any (by decide)) ⟨#[]⟩ (chA_B i) none 0 0 none 0 0 none 0 0 ⟨#[]⟩ none 0 0 none 0 0 none 0 0 false none 0 0 rC none 0 0
          have s0 := bx.cell 0
          have s1 := bx.cell 1
          obtain ⟨u0, u1, u2, u3, u4, u5, u6, u7, u8, u9, u10, u11, u12⟩ := bs2.cells
          simp only [List.getElem?_toArray, List.getElem?_cons_zero, List.getElem?_cons_succ] at s0 s1
          have hio : wo.heap.size ≤ wr.heap.size := hB2.size
          clear hI ho2 rC bs2 hB2 hT4 HI
          by_cases hbad : j = 0 ∨ 6 < j
          · have hT0 : TT j i = [] := if_pos hbad
            have hV0 : VV j i = [] := if_pos hbad
            have hT1 : TT j (i + 1) = [] := if_pos hbad
            have hV1 : VV j (i + 1) = [] := if_pos hbad
            rw [hT0, hV0, most_long i hi12 j hK9 hbad, if_neg (by decide), if_neg (by decide)] at HA
            rw [hT0] at rT
            rw [hV0] at rV
            replace HA : Hid _ := hid HA
            clear hTB hVB hT0 hV0 hV4
            go_wp2_with fail
            refine Calls.mono HA.out ?_
            rintro e U4 ⟨ya, yn, yc, xb, xm, xd, rfl, -, -, hb⟩
            have hbA := Below.on (Below.on (Below.refl _ wr) hb) (bal (Below.refl _ U4) (.cells #[.slice ya yn yc, .slice xb xm xd] 26))
            have hI2 : MoI w q5 j (U4.alloc (.cells #[.slice ya yn yc, .slice xb xm xd] 26)) (i + 1) ta tn tc vb vm vd := ⟨Below.on hW hbA, bx.later hbA, by rw [hT1]; exact rT.keep (by decide) (fun b _ hl => hbA.block b hl), by rw [hV1]; exact rV.keep (by decide) (fun b _ hl => hbA.block b hl)⟩
            replace hI2 : Hid _ := hid hI2
            clear HA hb hbA hT1 hV1 rT rV bx hW s0 s1 u0 u1 u2 u3 u4 u5 u6 u7 u8 u9 u10 u11 u12
            by_cases hi8 : 8 ≤ i
            · have hi8' : (8 : Int) ≤ (i : Int) := by omega
              rcases hbad with h0 | h6
              · have h00 : ((j : Int) == 0) = true := by simp; omega
                replace h0 : Hid _ := hid h0
                go_wp2
                go_roundw
                case rel => exact ⟨i + 1, ta, tn, tc, vb, vm, vd, hlt, by go_num, hI2⟩
                case measure => simp only [intOf]; omega
              · have h6' : (6 : Int) < (j : Int) := by omega
                have h60 : ((j : Int) == 0) = false := by simp; omega
                go_wp2
                go_roundw
                case rel => exact ⟨i + 1, ta, tn, tc, vb, vm, vd, hlt, by go_num, hI2⟩
                case measure => simp only [intOf]; omega
            · have hi8' : ¬ (8 : Int) ≤ (i : Int) := by omega
              rcases hbad with h0 | h6
              · have h00 : ((j : Int) == 0) = true := by simp; omega
                replace h0 : Hid _ := hid h0
                go_wp2
                go_roundw
                case rel => exact ⟨i + 1, ta, tn, tc, vb, vm, vd, hlt, by go_num, hI2⟩
                case measure => simp only [intOf]; omega
              · have h6' : (6 : Int) < (j : Int) := by omega
                have h60 : ((j : Int) == 0) = false := by simp; omega
                go_wp2
                go_roundw
                case rel => exact ⟨i + 1, ta, tn, tc, vb, vm, vd, hlt, by go_num, hI2⟩
                case measure => simp only [intOf]; omega
          · have hT0 : TT j i = tabsA j i := if_neg hbad
            have hV0 : VV j i = vwsA i := if_neg hbad
            have hk0 : j ≠ 0 := by omega
            have hk6 : ¬ 6 < j := by omega
            rw [hT0, hV0, most_tab i hi12 j hK9 hk0 hk6] at HA
            rw [hT0] at rT
            rw [hV0] at rV hVB hV4
            have h60 : ((j : Int) == 0) = false := by simp; omega
            have h6' : ¬ (6 : Int) < (j : Int) := by omega
            clear hTB hT0 hV0
            by_cases hi8 : i < 8
            · have hi8' : ¬ (8 : Int) ≤ (i : Int) := by omega
              rw [if_pos hi8, if_pos rfl, if_pos rfl, tabsA_next hi8] at HA
              replace HA : Hid _ := hid HA
              go_wp2_with fail
              refine Calls.mono HA.out ?_
              rintro e U4 ⟨ya, yn, yc, xb, xm, xd, rfl, p1, p2, hb⟩
              have hbA := Below.on (Below.on (Below.refl _ wr) hb) (bal (Below.refl _ U4) (.cells #[.slice ya yn yc, .slice xb xm xd] 26))
              have bx4 := bx.later hbA
              have g0 := bx4.cell 0
              have g1 := bx4.cell 1
              have f0 := bx4.free 0
              have f1 := bx4.free 1
              simp only [List.getElem?_toArray, List.getElem?_cons_zero, List.getElem?_cons_succ] at g0 g1
              have hYo := bal (Below.refl _ U4) (.cells #[.slice ya yn yc, .slice xb xm xd] 26)
              have P1 : RowIs eTbl (fun b => q5 < b) (U4.alloc (.cells #[.slice ya yn yc, .slice xb xm xd] 26)) (.slice ya yn yc) (tabsA j (i + 1)) := (p1.keep (by decide) (fun b _ hl => hYo.block b hl)).mono (by decide) fun b hb _ => by have hb' : _ ≤ b := hb; show q5 < b; omega
              have P2 : RowIs eVw (fun b => q5 < b) (U4.alloc (.cells #[.slice ya yn yc, .slice xb xm xd] 26)) (.slice xb xm xd) (vwsA i) := (p2.keep (by decide) (fun b _ hl => hYo.block b hl)).mono (by decide) fun b hb _ => by have hb' : _ ≤ b := hb; show q5 < b; omega
              have hW4 := Below.on hW hbA
              have hx0 := cell_new U4 #[.slice ya yn yc, .slice xb xm xd] 26 (0, 0) 0
              have hx1 := cell_new U4 #[.slice ya yn yc, .slice xb xm xd] 26 (0, 0) 1
              simp only [List.getElem?_toArray, List.getElem?_cons_zero, List.getElem?_cons_succ] at hx0 hx1
              clear HA hb hbA rT rV bx hW s0 s1 u0 u1 u2 u3 u4 u5 u6 u7 u8 u9 u10 u11 u12 p1 p2 hYo
              go_upto_region 14 with fail
              generalize U4.alloc (.cells #[.slice ya yn yc, .slice xb xm xd] 26) = V4 at *
              generalize U4.heap.size = q10 at *
              have hW5 : Below w.heap.size w ((V4.setCell ⟨q5, 0, none⟩ (.slice ya yn yc)).setCell ⟨q5, 1, none⟩ (.slice xb xm xd)) := (hW4.setCell (by show w.heap.size ≤ q5; omega) _).setCell (by show w.heap.size ≤ q5; omega) _
              have bx5 : Bk ((V4.setCell ⟨q5, 0, none⟩ (.slice ya yn yc)).setCell ⟨q5, 1, none⟩ (.slice xb xm xd)) q5 (.cells #[.slice ya yn yc, .slice xb xm xd] 26) := ⟨by simp [World.setCell, Array.getElem?_modify, bx4.row]⟩
              have rT5 : RowIs eTbl (fun b => q5 < b) ((V4.setCell ⟨q5, 0, none⟩ (.slice ya yn yc)).setCell ⟨q5, 1, none⟩ (.slice xb xm xd)) (.slice ya yn yc) (tabsA j (i + 1)) := P1.keep (by decide) (fun b hb _ => by have hb' : q5 < b := hb; rw [Below.heap_setCell _ _ _ _ (by show b ≠ q5; omega), Below.heap_setCell _ _ _ _ (by show b ≠ q5; omega)])
              have rV5 : RowIs eVw (fun b => q5 < b) ((V4.setCell ⟨q5, 0, none⟩ (.slice ya yn yc)).setCell ⟨q5, 1, none⟩ (.slice xb xm xd)) (.slice xb xm xd) (vwsA i) := P2.keep (by decide) (fun b hb _ => by have hb' : q5 < b := hb; rw [Below.heap_setCell _ _ _ _ (by show b ≠ q5; omega), Below.heap_setCell _ _ _ _ (by show b ≠ q5; omega)])
              clear bx4 P1 P2 hW4
              go_upto_region 26 with fail
              clear g0 g1 f0 f1 hx0 hx1
              generalize (V4.setCell ⟨q5, 0, none⟩ (.slice ya yn yc)).setCell ⟨q5, 1, none⟩ (.slice xb xm xd) = V5 at *
              have hcv5 := chA_conv V5 hi12
              have hbS := bal (bal (bal (Below.refl _ V5) (.cells #[.int .u8 (97 + (i : Int))] 5)) (.cells #[.int .i64 6, .string ⟨#[97]⟩, .string ⟨#[]⟩, .slice none 0 0, .slice none 0 0, .slice none 0 0, .slice none 0 0, .string ⟨#[]⟩, .slice none 0 0, .slice none 0 0, .slice none 0 0, .bool false, .slice none 0 0] 34)) (.cells #[.int .i64 3, .string ⟨#[]⟩, .string (chA i), .slice none 0 0, .slice none 0 0, .slice none 0 0, .slice none 0 0, .string ⟨#[]⟩, .slice none 0 0, .slice none 0 0, .slice none 0 0, .bool false, .slice (some ⟨V5.heap.size + 1, 0, none⟩) 1 1] 34)
              have bi := (Bk.new (V5.alloc (.cells #[.int .u8 (97 + (i : Int))] 5)) (.cells #[.int .i64 6, .string ⟨#[97]⟩, .string ⟨#[]⟩, .slice none 0 0, .slice none 0 0, .slice none 0 0, .slice none 0 0, .string ⟨#[]⟩, .slice none 0 0, .slice none 0 0, .slice none 0 0, .bool false, .slice none 0 0] 34)).later (bal (Below.refl _ _) (.cells #[.int .i64 3, .string ⟨#[]⟩, .string (chA i), .slice none 0 0, .slice none 0 0, .slice none 0 0, .slice none 0 0, .string ⟨#[]⟩, .slice none 0 0, .slice none 0 0, .slice none 0 0, .bool false, .slice (some ⟨V5.heap.size + 1, 0, none⟩) 1 1] 34))
              rw [World.size_alloc] at bi
              have bx6 := bx5.later hbS
              have s0 := bx6.cell 0
              have s1 := bx6.cell 1
              simp only [List.getElem?_toArray, List.getElem?_cons_zero, List.getElem?_cons_succ] at s0 s1
              have HA2 := addVw_any (tabsA_B hK9 (i + 1)) hVB hV4 ((rT5.keep (by decide) (fun b _ hl => hbS.block b hl)).any (by decide)) ((rV5.keep (by decide) (fun b _ hl => hbS.block b hl)).any (by decide)) ⟨#[]⟩ (chA_B i) none 0 0 none 0 0 none 0 0 ⟨#[]⟩ none 0 0 none 0 0 none 0 0 false (ib := V5.heap.size + 1) smA_B rfl (s := ({ zS 6 with tb := ⟨#[97]⟩ } : Sv)) { IsS.zero _ _ 6 with tb := rfl } rfl (fun y hy => by
                rw [bi.cell y]
                have hy' : y < 13 := hy
                match y, hy' with
                | 0, _ => rfl
                | 1, _ => rfl
                | 2, _ => rfl
                | 3, _ => rfl
                | 4, _ => rfl
                | 5, _ => rfl
                | 6, _ => rfl
                | 7, _ => rfl
                | 8, _ => rfl
                | 9, _ => rfl
                | 10, _ => rfl
                | 11, _ => rfl
                | 12, _ => rfl)
              rw [most_vw i hi12, if_pos hi8, if_pos rfl, if_pos rfl, vwsA_next hi8] at HA2
              replace HA2 : Hid _ := hid HA2
              clear bi
              go_wp2_with fail
              refine Calls.mono HA2.out ?_
              rintro e U6 ⟨za, zn, zc, ub, um, ud, rfl, p1, p2, hb6⟩
              have hb7 := Below.on hbS hb6
              have hbY := Below.on hb7 (bal (Below.refl _ U6) (.cells #[.slice za zn zc, .slice ub um ud] 26))
              have hqV5 : q5 < V5.heap.size := bx5.lt
              have hV56 : V5.heap.size ≤ (((V5.alloc (.cells #[.int .u8 (97 + (i : Int))] 5)).alloc (.cells #[.int .i64 6, .string ⟨#[97]⟩, .string ⟨#[]⟩, .slice none 0 0, .slice none 0 0, .slice none 0 0, .slice none 0 0, .string ⟨#[]⟩, .slice none 0 0, .slice none 0 0, .slice none 0 0, .bool false, .slice none 0 0] 34)).alloc (.cells #[.int .i64 3, .string ⟨#[]⟩, .string (chA i), .slice none 0 0, .slice none 0 0, .slice none 0 0, .slice none 0 0, .string ⟨#[]⟩, .slice none 0 0, .slice none 0 0, .slice none 0 0, .bool false, .slice (some ⟨V5.heap.size + 1, 0, none⟩) 1 1] 34)).heap.size := hbS.size
              have bx7 := bx5.later hbY
              have g0 := bx7.cell 0
              have g1 := bx7.cell 1
              have f0 := bx7.free 0
              have f1 := bx7.free 1
              simp only [List.getElem?_toArray, List.getElem?_cons_zero, List.getElem?_cons_succ] at g0 g1
              have hYo := bal (Below.refl _ U6) (.cells #[.slice za zn zc, .slice ub um ud] 26)
              have P1 : RowIs eTbl (fun b => q5 < b) (U6.alloc (.cells #[.slice za zn zc, .slice ub um ud] 26)) (.slice za zn zc) (tabsA j (i + 1)) := (p1.keep (by decide) (fun b _ hl => hYo.block b hl)).mono (by decide) fun b hb _ => by have hb' : _ ≤ b := hb; show q5 < b; omega
              have P2 : RowIs eVw (fun b => q5 < b) (U6.alloc (.cells #[.slice za zn zc, .slice ub um ud] 26)) (.slice ub um ud) (vwsA (i + 1)) := (p2.keep (by decide) (fun b _ hl => hYo.block b hl)).mono (by decide) fun b hb _ => by have hb' : _ ≤ b := hb; show q5 < b; omega
              have hW8 := Below.on hW5 hbY
              have hx0 := cell_new U6 #[.slice za zn zc, .slice ub um ud] 26 (0, 0) 0
              have hx1 := cell_new U6 #[.slice za zn zc, .slice ub um ud] 26 (0, 0) 1
              simp only [List.getElem?_toArray, List.getElem?_cons_zero, List.getElem?_cons_succ] at hx0 hx1
              have hqU : q5 ≠ U6.heap.size := by have := hb7.size; omega
              clear HA2 hb6 hb7 hbY hbS s0 s1 p1 p2 bx5 bx6 rT5 rV5 hcv5 hYo hW5
              go_upto_region 28 with fail
              generalize U6.alloc (.cells #[.slice za zn zc, .slice ub um ud] 26) = V7 at *
              generalize U6.heap.size = q14 at *
              have hI2 : MoI w q5 j ((V7.setCell ⟨q5, 0, none⟩ (.slice za zn zc)).setCell ⟨q5, 1, none⟩ (.slice ub um ud)) (i + 1) za zn zc ub um ud := ⟨(hW8.setCell (by show w.heap.size ≤ q5; omega) _).setCell (by show w.heap.size ≤ q5; omega) _, ⟨by simp [World.setCell, Array.getElem?_modify, bx7.row]⟩, by
                rw [show TT j (i + 1) = tabsA j (i + 1) from if_neg hbad]
                exact P1.keep (by decide) (fun b hb _ => by have hb' : q5 < b := hb; rw [Below.heap_setCell _ _ _ _ (by show b ≠ q5; omega), Below.heap_setCell _ _ _ _ (by show b ≠ q5; omega)]), by
                rw [show VV j (i + 1) = vwsA (i + 1) from if_neg hbad]
                exact P2.keep (by decide) (fun b hb _ => by have hb' : q5 < b := hb; rw [Below.heap_setCell _ _ _ _ (by show b ≠ q5; omega), Below.heap_setCell _ _ _ _ (by show b ≠ q5; omega)])⟩
              replace hI2 : Hid _ := hid hI2
              clear bx7 P1 P2 hW8
              go_wp2
              go_roundw
              case rel => exact ⟨i + 1, za, zn, zc, ub, um, ud, hlt, by go_num, hI2⟩
              case measure => simp only [intOf]; omega
            · have hi8' : (8 : Int) ≤ (i : Int) := by omega
              rw [if_neg hi8, if_neg (by decide), if_neg (by decide)] at HA
              replace HA : Hid _ := hid HA
              go_wp2_with fail
              refine Calls.mono HA.out ?_
              rintro e U4 ⟨ya, yn, yc, xb, xm, xd, rfl, p1, p2, hb⟩
              have hbA := Below.on (Below.on (Below.refl _ wr) hb) (bal (Below.refl _ U4) (.cells #[.slice ya yn yc, .slice xb xm xd] 26))
              have bx5 := bx.later hbA
              have rT5 := rT.keep (by decide) (fun b _ hl => hbA.block b hl)
              have rV5 := rV.keep (by decide) (fun b _ hl => hbA.block b hl)
              have hW5 := Below.on hW hbA
              clear HA hb hbA rT rV bx hW s0 s1 u0 u1 u2 u3 u4 u5 u6 u7 u8 u9 u10 u11 u12 p1 p2
              go_upto_region 26 with fail
              generalize U4.alloc (.cells #[.slice ya yn yc, .slice xb xm xd] 26) = V5 at *
              have hcv5 := chA_conv V5 hi12
              have hbS := bal (bal (bal (Below.refl _ V5) (.cells #[.int .u8 (97 + (i : Int))] 5)) (.cells #[.int .i64 6, .string ⟨#[97]⟩, .string ⟨#[]⟩, .slice none 0 0, .slice none 0 0, .slice none 0 0, .slice none 0 0, .string ⟨#[]⟩, .slice none 0 0, .slice none 0 0, .slice none 0 0, .bool false, .slice none 0 0] 34)) (.cells #[.int .i64 3, .string ⟨#[]⟩, .string (chA i), .slice none 0 0, .slice none 0 0, .slice none 0 0, .slice none 0 0, .string ⟨#[]⟩, .slice none 0 0, .slice none 0 0, .slice none 0 0, .bool false, .slice (some ⟨V5.heap.size + 1, 0, none⟩) 1 1] 34)
              have bi := (Bk.new (V5.alloc (.cells #[.int .u8 (97 + (i : Int))] 5)) (.cells #[.int .i64 6, .string ⟨#[97]⟩, .string ⟨#[]⟩, .slice none 0 0, .slice none 0 0, .slice none 0 0, .slice none 0 0, .string ⟨#[]⟩, .slice none 0 0, .slice none 0 0, .slice none 0 0, .bool false, .slice none 0 0] 34)).later (bal (Below.refl _ _) (.cells #[.int .i64 3, .string ⟨#[]⟩, .string (chA i), .slice none 0 0, .slice none 0 0, .slice none 0 0, .slice none 0 0, .string ⟨#[]⟩, .slice none 0 0, .slice none 0 0, .slice none 0 0, .bool false, .slice (some ⟨V5.heap.size + 1, 0, none⟩) 1 1] 34))
              rw [World.size_alloc] at bi
              have bx6 := bx5.later hbS
              have s0 := bx6.cell 0
              have s1 := bx6.cell 1
              simp only [List.getElem?_toArray, List.getElem?_cons_zero, List.getElem?_cons_succ] at s0 s1
              have HA2 := addVw_any (tabsA_B hK9 i) hVB hV4 ((rT5.keep (by decide) (fun b _ hl => hbS.block b hl)).any (by decide)) ((rV5.keep (by decide) (fun b _ hl => hbS.block b hl)).any (by decide)) ⟨#[]⟩ (chA_B i) none 0 0 none 0 0 none 0 0 ⟨#[]⟩ none 0 0 none 0 0 none 0 0 false (ib := V5.heap.size + 1) smA_B rfl (s := ({ zS 6 with tb := ⟨#[97]⟩ } : Sv)) { IsS.zero _ _ 6 with tb := rfl } rfl (fun y hy => by
                rw [bi.cell y]
                have hy' : y < 13 := hy
                match y, hy' with
                | 0, _ => rfl
                | 1, _ => rfl
                | 2, _ => rfl
                | 3, _ => rfl
                | 4, _ => rfl
                | 5, _ => rfl
                | 6, _ => rfl
                | 7, _ => rfl
                | 8, _ => rfl
                | 9, _ => rfl
                | 10, _ => rfl
                | 11, _ => rfl
                | 12, _ => rfl)
              rw [most_vw i hi12, if_neg hi8, if_neg (by decide), if_neg (by decide)] at HA2
              replace HA2 : Hid _ := hid HA2
              clear bi
              go_wp2_with fail
              refine Calls.mono HA2.out ?_
              rintro e U6 ⟨za, zn, zc, ub, um, ud, rfl, p1, p2, hb6⟩
              have hb7 := Below.on hbS hb6
              have hbY := Below.on hb7 (bal (Below.refl _ U6) (.cells #[.slice za zn zc, .slice ub um ud] 26))
              have hqV5 : q5 < V5.heap.size := bx5.lt
              have hV56 : V5.heap.size ≤ (((V5.alloc (.cells #[.int .u8 (97 + (i : Int))] 5)).alloc (.cells #[.int .i64 6, .string ⟨#[97]⟩, .string ⟨#[]⟩, .slice none 0 0, .slice none 0 0, .slice none 0 0, .slice none 0 0, .string ⟨#[]⟩, .slice none 0 0, .slice none 0 0, .slice none 0 0, .bool false, .slice none 0 0] 34)).alloc (.cells #[.int .i64 3, .string ⟨#[]⟩, .string (chA i), .slice none 0 0, .slice none 0 0, .slice none 0 0, .slice none 0 0, .string ⟨#[]⟩, .slice none 0 0, .slice none 0 0, .slice none 0 0, .bool false, .slice (some ⟨V5.heap.size + 1, 0, none⟩) 1 1] 34)).heap.size := hbS.size
              have hI2 : MoI w q5 j (U6.alloc (.cells #[.slice za zn zc, .slice ub um ud] 26)) (i + 1) ta tn tc vb vm vd := ⟨Below.on hW5 hbY, bx5.later hbY, by
                rw [show TT j (i + 1) = tabsA j (i + 1) from if_neg hbad, ← tabsA_last hi8]
                exact rT5.keep (by decide) (fun b _ hl => hbY.block b hl), by
                rw [show VV j (i + 1) = vwsA (i + 1) from if_neg hbad, ← vwsA_last hi8]
                exact rV5.keep (by decide) (fun b _ hl => hbY.block b hl)⟩
              replace hI2 : Hid _ := hid hI2
              clear HA2 hb6 hb7 hbY hbS s0 s1 p1 p2 bx5 bx6 rT5 rV5 hcv5 hW5
              go_wp2
              go_roundw
              case rel => exact ⟨i + 1, ta, tn, tc, vb, vm, vd, hlt, by go_num, hI2⟩
              case measure => simp only [intOf]; omega
    · have hNi : N = i := by omega
      subst hNi
      have hB := HI.out.below
      go_wp2
      go_ret
      exact ⟨rfl, hB⟩

end Go.Proofs.Ytnboooaockgoiab
