import Derived.Test.YtnlaaejdianfjaaGreatQwad
import Derived.Test.YtnlaaejdianfjaaGreatQwaa
import Derived.Test.YtnlaaejdianfjaaGreatQwab
namespace Go.Proofs.YtnlaaejdianfjaaGreat
open Go.RowKit
set_option linter.unusedVariables false

theorem below_grows {B : Nat} {a w w' : World} {row : Option Nat} (h : Below B a w) (hB : B ≤ w.heap.size) (hg : w.grownBy w' row) (hrow : ∀ k, row = some k → B ≤ k) : Below B a w' :=
  h.trans ⟨hg.os, hg.tape, hg.output, hg.size, fun i hi => hg.block i (by omega) fun e => by have := hrow i e.symm; omega⟩
/-- The cells of a column among those of a kind. -/
def itC (x : It) : List Value := [.int .i64 x.1, .string x.2.1, .string x.2.2]
def ofK (C : Cl2) (kind : Int) : List It := (C.filter fun x => decide (x.2 = kind)).map Prod.fst
theorem ofK_step {C : Cl2} {kind : Int} {k : Nat} (hk : k < C.length) : ofK (C.take (k + 1)) kind = ofK (C.take k) kind ++ if C[k].2 = kind then [C[k].1] else [] := by
  rw [ofK, ofK, List.take_succ_eq_append_getElem hk, List.filter_append, List.map_append]
  congr 1
  by_cases h : C[k].2 = kind <;> simp [h]
theorem ofK_len (C : Cl2) (kind : Int) : (ofK C kind).length ≤ C.length := by rw [ofK, List.length_map]; exact List.length_filter_le _ _
theorem ofK_mem {C : Cl2} {kind : Int} {x : It} (h : x ∈ ofK C kind) : ∃ y ∈ C, y.2 = kind ∧ y.1 = x := by
  rw [ofK, List.mem_map] at h
  obtain ⟨y, hy, e⟩ := h
  rw [List.mem_filter] at hy
  exact ⟨y, hy.1, by simpa using hy.2, e⟩
/-- A column of a kind among some; its table is told, or needs not be. -/
def ColOK (C : Cl2) (kind : Int) (tb nm : ByteArray) : Prop := ∃ x ∈ C, x.2 = kind ∧ nm = x.1.2.2 ∧ (tb = x.1.2.1 ∨ (tb = ⟨#[]⟩ ∧ cnt C nm = 1))

set_option maxRecDepth 100000 in
set_option maxHeartbeats 4000000 in
theorem col_any {g r : Nat} {w : World} (h : Pk w g r) {C : Cl2} {a a2 : Option Addr} {n c n2 c2 : Nat} (hc : RowIs eItem (fun b => b ≠ g) w (.slice a n c) (C.map Prod.fst)) (hk : RowIs eInt (fun b => b ≠ g) w (.slice a2 n2 c2) (C.map Prod.snd)) (hn : C.length ≤ 100) (kind : Int) (hx : ∃ x ∈ C, x.2 = kind) :
    Calls Tryz.prog 48 #[.pointer (some ⟨g, 0, none⟩), .slice a n c, .slice a2 n2 c2, .int .i64 kind] w fun e w' => ∃ tb nm r', e = .returned (.tuple #[exV 2 (0, 0, ⟨#[]⟩, tb, nm) (.slice none 0 0), .bool true]) ∧ ColOK C kind tb nm ∧ r' ≤ r ∧ Pk w' g r' ∧ But g w w' := by
  have hgl := h.lt
  have hl1 : n = C.length := by obtain ⟨ao, n', c', hv, hl, _⟩ := hc; cases hv; rw [← hl, List.length_map]
  have hl2 : n2 = C.length := by obtain ⟨ao, n', c', hv, hl, _⟩ := hk; cases hv; rw [← hl, List.length_map]
  subst hl1
  obtain rfl : C.length = n2 := hl2.symm
  have HK : Hid (∀ k (hk : k < C.length), ∃ b o b2 o2 x, a = some ⟨b, o, none⟩ ∧ a2 = some ⟨b2, o2, none⟩ ∧ b < w.heap.size ∧ b2 < w.heap.size ∧ C[k].1 = x ∧ w.cell? ⟨b2, o2 + k, none⟩ = some (.int .i64 C[k].2) ∧ (w.cell? ⟨b, o + k * 3, none⟩ = some (.int .i64 x.1) ∧ w.cell? ⟨b, o + k * 3 + 1, none⟩ = some (.string x.2.1) ∧ w.cell? ⟨b, o + k * 3 + 2, none⟩ = some (.string x.2.2))) := hid fun k hkk => by
    have h1 : k < (C.map Prod.fst).length := by rw [List.length_map]; omega
    have h2 : k < (C.map Prod.snd).length := by rw [List.length_map]; omega
    obtain ⟨b, o, ha, _, q0, q1, q2⟩ := hc.item1 h1
    obtain ⟨b2, o2, ha2, _, q3⟩ := hk.int1 h2
    rw [List.getElem_map] at q0 q1 q2 q3
    exact ⟨b, o, b2, o2, _, ha, ha2, World.block_lt_of_cell? _ _ q0, World.block_lt_of_cell? _ _ q3, rfl, q3, q0, q1, q2⟩
  have HO : Hid (∀ nm w', But g w w' → Calls Tryz.prog 82 #[.slice a C.length c, .string nm] w' fun e w'' => e = .returned (.bool (decide (cnt C nm = 1))) ∧ w'' = w') := hid fun nm w' hb => once_any (hc.keep (by decide) fun b hq hlt => hb.block b hlt hq) hn nm
  have b0 : Be (w.alloc zE) w.heap.size 0 nilP (.slice none 0 0) := Be.new w 0 nilP (.slice none 0 0)
  have HX : Hid (ofK C kind ≠ []) := hid (by
    obtain ⟨x, hm, e⟩ := hx
    intro he
    have : x.1 ∈ ofK C kind := by rw [ofK, List.mem_map]; exact ⟨x, List.mem_filter.2 ⟨hm, by simpa using e⟩, rfl⟩
    rw [he] at this
    cases this)
  have HP0 : Hid _ := hid h
  have hB0 : Below w.heap.size w (w.alloc zE) := bal (Below.refl _ _) _
  have hp0 := h.alloc zE
  clear h hc hk hx
  go_enter Tryz.func48, Tryz.ntmps48
  go_wp2
  generalize hW : w.alloc (.cells #[.int .i64 0, .int .i64 0, .int .i64 0, .string ⟨#[]⟩, .string ⟨#[]⟩, .string ⟨#[]⟩, .slice none 0 0] 63) = W at *
  have hWs : W.heap.size = w.heap.size + 1 := by rw [← hW]; simp
  have hW0 : W.ownsRow (w.heap.size + 1) 50 3 (.slice none 0 0) 0 [] := ⟨rfl, .inl ⟨rfl, rfl⟩⟩
  clear hW
  go_loopw [10, 11] (fun v i wr => ∃ (k : Nat) (css : List (List Value)), k ≤ C.length ∧ i = .int .i64 k ∧ OwnR 50 3 (w.heap.size + 1) wr v css ∧ css.length ≤ 100 ∧ Hid (css = (ofK (C.take k) kind).map itC) ∧ Below W.heap.size W wr) (fun _ i _ => C.length - (intOf i).toNat)
  case atStart => exact ⟨0, [], Nat.zero_le _, rfl, ⟨by simp, hW0⟩, by simp, hid rfl, Below.refl _ _⟩
  case round =>
    obtain ⟨k, css, hk, rfl, ho, hcl, HC, hb⟩ := hrel
    by_cases hlt : k < C.length
    · obtain ⟨b, o, b2, o2, x, rfl, rfl, hbl, hbl2, hx, q3, q0, q1, q2⟩ := HK.out k hlt
      have hbw : Below w.heap.size w wr := Below.on hB0 hb
      replace q0 := cell_later hbw q0
      replace q1 := cell_later hbw q1
      replace q2 := cell_later hbw q2
      replace q3 := cell_later hbw q3
      have hst := ofK_step (kind := kind) hlt
      have hle := ofK_len (C.take (k + 1)) kind
      rw [List.length_take] at hle
      have i0 : (0 : Int) ≤ (k : Int) := by omega
      have i1 : (k : Int) < (C.length : Int) := by omega
      obtain ⟨x0, x1, x2⟩ := x
      simp only at q0 q1 q2
      by_cases hxk : C[k].2 = kind
      · rw [if_pos hxk, hx] at hst
        rw [hxk] at q3
        have HS : Hid _ := hid hst
        have ho2 := ho.alloc (.cells #[.int .i64 x0, .string x1, .string x2] 50)
        have hb2 := bal hb (.cells #[.int .i64 x0, .string x1, .string x2] 50)
        have hblk := ho.blk
        rw [hst, List.length_append] at hle
        clear hst HK hx hxk ho
        go_wp2_with (first | (at_builtin; go_must (refine wpList_appR Tryz.underlying27 Tryz.infoTItem rfl (by decide) (by decide) rfl (.tmp 32) (.tmp 37) rfl _ css wr.heap.size [.int .i64 x0, .string x1, .string x2] rfl rfl ho2 rfl (by simp [Value.oneCell']) ?_ (by omega) (by have := hb2.size; omega) ?_)) | fail)
        · intro j hj
          have hj' : j < 3 := hj
          match j, hj' with
          | 0, _ => exact cell_new wr _ _ _ 0
          | 1, _ => exact cell_new wr _ _ _ 1
          | 2, _ => exact cell_new wr _ _ _ 2
        · intro v' w6 hO6 hg6 hown
          have hb6 : Below W.heap.size W w6 := below_grows hb2 hb2.size hg6 fun k e => by have := (hblk k e).1; omega
          have HN : Hid (css ++ [[.int .i64 x0, .string x1, .string x2]] = (ofK (C.take (k + 1)) kind).map itC) := hid (by rw [HS.out, List.map_append, ← HC.out]; rfl)
          have hl6 : (css ++ [[Value.int .i64 x0, .string x1, .string x2]]).length ≤ 100 := by
            rw [HN.out, List.length_map]
            have := ofK_len (C.take (k + 1)) kind
            rw [List.length_take] at this
            omega
          clear HC HS hg6 hown ho2 hb2 hblk q0 q1 q2 q3
          go_wp2
          go_roundw
          case rel => exact ⟨k + 1, _, by omega, by go_num, hO6, hl6, HN, hb6⟩
          case measure => simp only [intOf]; omega
      · rw [if_neg hxk, List.append_nil] at hst
        have HS : Hid (css = (ofK (C.take (k + 1)) kind).map itC) := hid (by rw [hst]; exact HC.out)
        have gk : (C[k].2 == kind) = false := by simpa using hxk
        clear hst HK hx hxk HC
        generalize C[k].2 = kk at *
        go_wp2
        go_roundw
        case rel => exact ⟨k + 1, css, by omega, by go_num, ho, hcl, HS, hb⟩
        case measure => simp only [intOf]; omega
    · obtain rfl : k = C.length := by omega
      have HC2 : Hid (css = (ofK C kind).map itC) := hid (by rw [HC.out, List.take_length])
      have hne : css ≠ [] := by rw [HC2.out]; intro e; exact HX.out (List.map_eq_nil_iff.1 e)
      rcases ho.2.2 with ⟨rfl, h0⟩ | ⟨gg, cap, cur, rfl, hgb, hrest⟩
      · exact absurd (List.eq_nil_of_length_eq_zero h0) hne
      have hpos : 0 < css.length := List.length_pos_iff.2 hne
      have gl : ((css.length : Int) == 0) = false := by simp; omega
      have hpr := hp0.later hb
      have b1 := b0.later hb
      have HCell : Hid (∀ j, j < css.length → ∃ x : It, x ∈ ofK C kind ∧ wr.cell? ⟨gg, j * 3, none⟩ = some (.int .i64 x.1) ∧ wr.cell? ⟨gg, j * 3 + 1, none⟩ = some (.string x.2.1) ∧ wr.cell? ⟨gg, j * 3 + 2, none⟩ = some (.string x.2.2)) := hid fun j hj => by
        have hj2 : j < (ofK C kind).length := by rw [HC2.out, List.length_map] at hj; exact hj
        have hq : ∀ i, i < 3 → wr.cell? ⟨gg, j * 3 + i, none⟩ = (itC (ofK C kind)[j])[i]? := fun i hi => by
          have hlt2 : j * 3 + i < css.length * 3 := by omega
          have c0 := World.ownsRow.cellAt ho.2 (j * 3 + i) hlt2
          rw [c0, flat_at ho.1 hj hi]
          congr 1
          have : css[j]? = some (itC (ofK C kind)[j]) := by rw [HC2.out, List.getElem?_map, List.getElem?_eq_getElem hj2]; rfl
          rw [List.getElem?_eq_getElem hj] at this
          exact Option.some.inj this
        exact ⟨(ofK C kind)[j], List.getElem_mem _, hq 0 (by decide), hq 1 (by decide), hq 2 (by decide)⟩
      have hgl2 : gg < wr.heap.size := (Array.getElem?_eq_some_iff.1 hrest.1).1
      have HN : Hid _ := hid (num_any hpr css.length hpos (by omega))
      have hbw : But g w wr := But.of (Below.on hB0 hb)
      clear HC HX hrest ho HK hp0 b0
      go_wp2_with fail
      refine Calls.mono HN.out ?_
      rintro e w3 ⟨j, r3, rfl, hj, hl3, hp3, hb3⟩
      obtain ⟨x, hxm, q0, q1, q2⟩ := HCell.out j hj
      replace q0 := hb3.cell q0 (by show gg ≠ g; omega)
      replace q1 := hb3.cell q1 (by show gg ≠ g; omega)
      replace q2 := hb3.cell q2 (by show gg ≠ g; omega)
      have hB3 := hbw.trans hb3
      have b3 := b1.but hb3 (by omega)
      have hgg3 : gg < w3.heap.size := Nat.lt_of_lt_of_le hgl2 hb3.size
      obtain ⟨y, hy, hyk, hyx⟩ := ofK_mem hxm
      subst hyx
      have HY : Hid (y ∈ C ∧ y.2 = kind) := hid ⟨hy, hyk⟩
      clear HN HCell hpr b1 hxm hy hyk hbw hb3
      obtain ⟨⟨y0, y1, y2⟩, yk⟩ := y
      simp only at q0 q1 q2
      have i0 : (0 : Int) ≤ (j : Int) := by omega
      have i1 : (j : Int) < (css.length : Int) := by omega
      go_upto_region 11 with fail
      have hp4 := (hp3.alloc (.cells #[.int .i64 y0, .string y1, .string y2] 50)).alloc (.cells #[.int .i64 2, .int .i64 0, .int .i64 0, .string ⟨#[]⟩, .string y1, .string y2, .slice none 0 0] 63)
      have hB4 := (hB3.alloc (.cells #[.int .i64 y0, .string y1, .string y2] 50)).alloc (.cells #[.int .i64 2, .int .i64 0, .int .i64 0, .string ⟨#[]⟩, .string y1, .string y2, .slice none 0 0] 63)
      have hb34 := bal (bal (Below.refl _ w3) (.cells #[.int .i64 y0, .string y1, .string y2] 50)) (.cells #[.int .i64 2, .int .i64 0, .int .i64 0, .string ⟨#[]⟩, .string y1, .string y2, .slice none 0 0] 63)
      have b4 := b3.later hb34
      have e4 : Be ((w3.alloc (.cells #[.int .i64 y0, .string y1, .string y2] 50)).alloc (.cells #[.int .i64 2, .int .i64 0, .int .i64 0, .string ⟨#[]⟩, .string y1, .string y2, .slice none 0 0] 63)) (w3.heap.size + 1) 2 (0, 0, ⟨#[]⟩, y1, y2) (.slice none 0 0) := by
        have := Be.new (w3.alloc (.cells #[.int .i64 y0, .string y1, .string y2] 50)) 2 (0, 0, ⟨#[]⟩, y1, y2) (.slice none 0 0)
        rwa [World.size_alloc] at this
      have c4 : ((w3.alloc (.cells #[.int .i64 y0, .string y1, .string y2] 50)).alloc (.cells #[.int .i64 2, .int .i64 0, .int .i64 0, .string ⟨#[]⟩, .string y1, .string y2, .slice none 0 0] 63)).cell? ⟨w3.heap.size, 2, none⟩ = some (.string y2) := cell_later (bal (Below.refl _ _) _) (cell_new w3 _ _ _ 2)
      have hz3 : w.heap.size < w3.heap.size := b3.lt
      clear hp3 hB3 b3 hb34 q0 q1 q2
      generalize (w3.alloc (.cells #[.int .i64 y0, .string y1, .string y2] 50)).alloc (.cells #[.int .i64 2, .int .i64 0, .int .i64 0, .string ⟨#[]⟩, .string y1, .string y2, .slice none 0 0] 63) = w4 at *
      generalize w3.heap.size = q at *
      have HN : Hid _ := hid (num_any hp4 3 (by decide) (by decide))
      go_wp2_with fail
      refine Calls.mono HN.out ?_
      rintro e w5 ⟨j5, r5, rfl, hj5, hl5, hp5, hb5⟩
      have hB5 := hB4.trans hb5
      have b5 := b4.but hb5 (by omega)
      have e5 := e4.but hb5 (by omega)
      have c5 := hb5.cell c4 (by show q ≠ g; omega)
      have hq5 := e5.lt
      clear HN hp4 hB4 b4 e4 c4 hb5
      by_cases h0 : j5 = 0
      · subst h0
        obtain ⟨k0, k1, k2, k3, k4, k5, k6⟩ := e5.cells
        obtain ⟨d0, d1, d2, d3, d4, d5, d6⟩ := b5.cells
        obtain ⟨f0, f1, f2, f3, f4, f5, f6⟩ := b5.free
        have HE : Hid _ := hid (hp5.set7 (b := w.heap.size) hgl 2 (0, 0, ⟨#[]⟩, y1, y2) (.slice none 0 0))
        have HB : Hid _ := hid (hB5.set7 (b := w.heap.size) (Nat.le_refl _) 2 (0, 0, ⟨#[]⟩, y1, y2) (.slice none 0 0))
        have HR : Hid (ColOK C kind y1 y2) := hid ⟨_, HY.out.1, HY.out.2, rfl, .inl rfl⟩
        clear e5 b5 hp5 hB5 HO HY
        simp only at k0 k1 k2 k3 k4 k5 k6 d0 d1 d2 d3 d4 d5 d6
        go_wp2
        exact bodyPost_ret (v := .tuple #[exV 2 (0, 0, ⟨#[]⟩, y1, y2) (.slice none 0 0), .bool true]) (by simp [results, Tryz.results48, go_sem, exV, d0, d1, d2, d3, d4, d5, d6]) rfl ⟨y1, y2, r5, rfl, HR.out, by have := hl3.1; have := hl5.1; omega, HE.out, HB.out⟩
      · have g5 : decide ((0 : Int) < (j5 : Int)) = true := by simp; omega
        have HO2 : Hid _ := hid (HO.out y2 w5 hB5)
        go_wp2_with fail
        refine Calls.mono HO2.out ?_
        rintro e w6 ⟨rfl, hw6⟩
        subst hw6
        clear HO2 HO
        by_cases h1 : cnt C y2 = 1
        · have gd : decide (cnt C y2 = 1) = true := by simpa using h1
          rw [gd]
          have e6 := e5.set4 ⟨#[]⟩
          have b6 := b5.other (r := q + 1) (by omega) 4 (.string ⟨#[]⟩)
          have hp6 := hp5.other (b := q + 1) (by omega) 4 (.string ⟨#[]⟩)
          have hB6 := hB5.new (r := q + 1) (by omega) 4 (.string ⟨#[]⟩)
          obtain ⟨k0, k1, k2, k3, k4, k5, k6⟩ := e6.cells
          obtain ⟨d0, d1, d2, d3, d4, d5, d6⟩ := b6.cells
          obtain ⟨f0, f1, f2, f3, f4, f5, f6⟩ := b6.free
          have hf4 := e5.free.2.2.2.2.1
          have HE : Hid _ := hid (hp6.set7 (b := w.heap.size) hgl 2 (0, 0, ⟨#[]⟩, ⟨#[]⟩, y2) (.slice none 0 0))
          have HB : Hid _ := hid (hB6.set7 (b := w.heap.size) (Nat.le_refl _) 2 (0, 0, ⟨#[]⟩, ⟨#[]⟩, y2) (.slice none 0 0))
          have HR : Hid (ColOK C kind ⟨#[]⟩ y2) := hid ⟨_, HY.out.1, HY.out.2, rfl, .inr ⟨rfl, h1⟩⟩
          have hsz : (w6.setCell ⟨q + 1, 4, none⟩ (.string ⟨#[]⟩)).heap.size = w6.heap.size := by simp [World.setCell]
          simp only at k0 k1 k2 k3 k4 k5 k6 d0 d1 d2 d3 d4 d5 d6
          clear b5 hp5 hB5 HY h1 gd e6 b6 hp6 hB6
          obtain ⟨j0, j1, j2, j3, j4, j5', j6⟩ := e5.cells
          clear e5
          go_upto_region 13 with fail
          generalize w6.setCell ⟨q + 1, 4, none⟩ (.string ⟨#[]⟩) = w7 at *
          clear j0 j1 j2 j3 j4 j5' j6
          go_wp2
          exact bodyPost_ret (v := .tuple #[exV 2 (0, 0, ⟨#[]⟩, ⟨#[]⟩, y2) (.slice none 0 0), .bool true]) (by simp [results, Tryz.results48, go_sem, exV, d0, d1, d2, d3, d4, d5, d6]) rfl ⟨⟨#[]⟩, y2, r5, rfl, HR.out, by have := hl3.1; have := hl5.1; omega, HE.out, HB.out⟩
        · have gd : decide (cnt C y2 = 1) = false := by simpa using h1
          rw [gd]
          obtain ⟨k0, k1, k2, k3, k4, k5, k6⟩ := e5.cells
          obtain ⟨d0, d1, d2, d3, d4, d5, d6⟩ := b5.cells
          obtain ⟨f0, f1, f2, f3, f4, f5, f6⟩ := b5.free
          have HE : Hid _ := hid (hp5.set7 (b := w.heap.size) hgl 2 (0, 0, ⟨#[]⟩, y1, y2) (.slice none 0 0))
          have HB : Hid _ := hid (hB5.set7 (b := w.heap.size) (Nat.le_refl _) 2 (0, 0, ⟨#[]⟩, y1, y2) (.slice none 0 0))
          have HR : Hid (ColOK C kind y1 y2) := hid ⟨_, HY.out.1, HY.out.2, rfl, .inl rfl⟩
          clear e5 b5 hp5 hB5 HY h1 gd
          simp only at k0 k1 k2 k3 k4 k5 k6 d0 d1 d2 d3 d4 d5 d6
          go_wp2
          exact bodyPost_ret (v := .tuple #[exV 2 (0, 0, ⟨#[]⟩, y1, y2) (.slice none 0 0), .bool true]) (by simp [results, Tryz.results48, go_sem, exV, d0, d1, d2, d3, d4, d5, d6]) rfl ⟨y1, y2, r5, rfl, HR.out, by have := hl3.1; have := hl5.1; omega, HE.out, HB.out⟩
end Go.Proofs.YtnlaaejdianfjaaGreat
namespace Go.Proofs.YtnlaaejdianfjaaGreat
open Go.RowKit
set_option linter.unusedVariables false
set_option linter.unusedSimpArgs false

/-- A value: its kind, its number, its text. -/
abbrev Vt := Int × Int × ByteArray
abbrev vZ : Vt := (0, 0, ⟨#[]⟩)
abbrev vV (v : Vt) : Value := .agg #[.int .i64 v.1, .int .i64 v.2.1, .string v.2.2]
def eVal : Ek Vt := ⟨3, fun _ _ v cs => cs = [.int .i64 v.1, .int .i64 v.2.1, .string v.2.2], fun _ h => h, fun _ h => h⟩
def trV (b : Bool) : Vt := (3, if b then 1 else 0, ⟨#[]⟩)
def knP (v : Vt) (k : Int) : Int × Int := if v.1 = k then (v.2.1, 0) else (0, 11)
def partsP (op : Int) : Int := if op = 1 then 0 else if op = 2 then 0 else if op = 3 then 1 else if op = 4 then 1 else if 5 ≤ op ∧ op ≤ 15 then 2 else -1
def standsP (op o : Int) : Bool := if op = 8 then decide (o = 0) else if op = 9 then !decide (o = 0) else if op = 10 then decide (o < 0) else if op = 11 then decide (o ≤ 0) else if op = 12 then decide (0 < o) else decide (0 ≤ o)
def cmpVt (a b : Vt) : Int := cmpV a.1 a.2.1 (nums a.2.2) b.1 b.2.1 (nums b.2.2)
def cmpdP (op : Int) (a b : Vt) : Vt × Int := if a.1 ≠ b.1 ∨ (a.1 ≠ 1 ∧ a.1 ≠ 2) then (vZ, 11) else (trV (standsP op (cmpVt a b)), 0)
/-- What a way makes of numbers. -/
def numP (op : Int) (l : List Int) : Int := if op = 3 then -(l.headD 0) else if op = 5 then l.headD 0 + l.tail.headD 0 else if op = 6 then l.headD 0 - l.tail.headD 0 else l.headD 0 * l.tail.headD 0
def isNumOp (op : Int) : Bool := decide (op = 3) || (decide (op = 5) || (decide (op = 6) || decide (op = 7)))
def recP (op : Int) (vs : List Vt) : Vt × Int := if erL (vs.map fun v => (knP v 1).2) ≠ 0 then (vZ, erL (vs.map fun v => (knP v 1).2)) else ((1, nV (numP op (vs.map fun v => v.2.1)), ⟨#[]⟩), nE (numP op (vs.map fun v => v.2.1)))
def madeP (op : Int) (vs : List Vt) : Vt × Int := if isNumOp op then recP op vs else if op = 4 then (trV (!decide ((knP (vs.headD vZ) 3).1 = 1)), (knP (vs.headD vZ) 3).2) else cmpdP op (vs.headD vZ) (vs.tail.headD vZ)
/-- The number of a truth, or an error. -/
def boP (r : Vt × Int) : Int × Int := if r.2 ≠ 0 then (0, r.2) else knP r.1 3
def upP (z : Int) (r0 r1 : Vt × Int) : Vt × Int := if (boP r0).2 ≠ 0 then (trV false, (boP r0).2) else if (boP r0).1 = z then (trV (decide (z = 1)), 0) else if (boP r1).2 ≠ 0 then (trV false, (boP r1).2) else (trV (decide ((boP r1).1 = 1)), 0)
/-- The column that is meant. -/
def itV (tb nm : ByteArray) (c : It) : Bool := eqS c.2.2 nm && (eqS tb ⟨#[]⟩ || eqS c.2.1 tb)
def colV (C : List It) (V : List Vt) (tb nm : ByteArray) : Vt × Int := if 0 ≤ fidx (itV tb nm) C ∧ (C.drop ((fidx (itV tb nm) C).toNat + 1)).any (itV tb nm) = false then ((V[(fidx (itV tb nm) C).toNat]?).getD vZ, 0) else (vZ, 10)
def ev1 (C : List It) (V : List Vt) (p : Pg) (rs : List (Vt × Int)) : Vt × Int :=
  if (rs.length : Int) ≠ partsP p.1 then (vZ, 1)
  else if p.1 = 1 then ((p.2.1, p.2.2.1, p.2.2.2.1), 0)
  else if p.1 = 2 then colV C V p.2.2.2.2.1 p.2.2.2.2.2
  else if p.1 = 14 then upP 0 (rs.headD (vZ, 0)) (rs.tail.headD (vZ, 0))
  else if p.1 = 15 then upP 1 (rs.headD (vZ, 0)) (rs.tail.headD (vZ, 0))
  else if erL (rs.map (·.2)) ≠ 0 then (vZ, erL (rs.map (·.2)))
  else madeP p.1 (rs.map (·.1))
def evs (C : List It) (V : List Vt) : Tg → List (Vt × Int)
  | .nil => []
  | .node _ _ p l r => ev1 C V p (evs C V l) :: evs C V r
def evT (C : List It) (V : List Vt) (t : Pg × Tg) : Vt × Int := ev1 C V t.1 (evs C V t.2)
theorem evs_map (C : List It) (V : List Vt) : ∀ f : Tg, evs C V f = (toL f).map (evT C V) := by
  intro f
  induction f with
  | nil => rfl
  | node x y p l r ihl ihr => rw [evs, toL, List.map_cons, ← ihr]; rfl
theorem evs_len (C : List It) (V : List Vt) (f : Tg) : (evs C V f).length = (toL f).length := by rw [evs_map, List.length_map]

set_option maxRecDepth 100000 in
theorem parts_any (op : Int) (w : World) : Calls Tryz.prog 122 #[.int .i64 op] w fun e w' => e = .returned (.int .i64 (partsP op)) ∧ w' = w := by
  by_cases h1 : op = 1
  · subst h1
    rw [show partsP 1 = 0 from rfl]
    go_enter Tryz.func122, Tryz.ntmps122
    go_wp2
    go_ret
    exact ⟨rfl, rfl⟩
  have g1 : decide (op = 1) = false := by simpa using h1
  by_cases h2 : op = 2
  · subst h2
    rw [show partsP 2 = 0 from rfl]
    go_enter Tryz.func122, Tryz.ntmps122
    go_wp2
    go_ret
    exact ⟨rfl, rfl⟩
  have g2 : decide (op = 2) = false := by simpa using h2
  by_cases h3 : op = 3
  · subst h3
    rw [show partsP 3 = 1 from rfl]
    go_enter Tryz.func122, Tryz.ntmps122
    go_wp2
    go_ret
    exact ⟨rfl, rfl⟩
  have g3 : decide (op = 3) = false := by simpa using h3
  by_cases h4 : op = 4
  · subst h4
    rw [show partsP 4 = 1 from rfl]
    go_enter Tryz.func122, Tryz.ntmps122
    go_wp2
    go_ret
    exact ⟨rfl, rfl⟩
  have g4 : decide (op = 4) = false := by simpa using h4
  by_cases h5 : 5 ≤ op
  · have g5 : decide (5 ≤ op) = true := by simpa using h5
    by_cases h6 : op ≤ 15
    · have g6 : decide (op ≤ 15) = true := by simpa using h6
      rw [show partsP op = 2 from by simp [partsP, h1, h2, h3, h4, h5, h6]]
      go_enter Tryz.func122, Tryz.ntmps122
      go_wp2
      go_ret
      exact ⟨rfl, rfl⟩
    · have g6 : decide (op ≤ 15) = false := by simpa using h6
      rw [show partsP op = -1 from by simp [partsP, h1, h2, h3, h4, h6]]
      go_enter Tryz.func122, Tryz.ntmps122
      go_wp2
      go_ret
      exact ⟨rfl, rfl⟩
  · have g5 : decide (5 ≤ op) = false := by simpa using h5
    rw [show partsP op = -1 from by simp [partsP, h1, h2, h3, h4, h5]]
    go_enter Tryz.func122, Tryz.ntmps122
    go_wp2
    go_ret
    exact ⟨rfl, rfl⟩

set_option maxRecDepth 100000 in
theorem truthE_any (b : Bool) (w : World) : Calls Tryz.prog 138 #[.bool b] w fun e w' => e = .returned (vV (trV b)) ∧ Below w.heap.size w w' := by
  have hw := bal (Below.refl w.heap.size w) (.cells #[.int .i64 0, .int .i64 0, .string ⟨#[]⟩] 44)
  cases b with
  | true =>
    go_enter Tryz.func138, Tryz.ntmps138
    go_wp2
    refine bodyPost_ret (v := .agg #[.int .i64 3, .int .i64 1, .string ⟨#[]⟩]) (by simp [results, Tryz.results138, go_sem]) rfl ⟨rfl, ?_⟩
    first | exact hw | exact bal (Below.refl _ _) _ | exact ((hw.setCell (Nat.le_refl _) _).setCell (Nat.le_refl _) _).setCell (Nat.le_refl _) _
  | false =>
    go_enter Tryz.func138, Tryz.ntmps138
    go_wp2
    refine bodyPost_ret (v := .agg #[.int .i64 3, .int .i64 0, .string ⟨#[]⟩]) (by simp [results, Tryz.results138, go_sem]) rfl ⟨rfl, ?_⟩
    first | exact hw | exact bal (Below.refl _ _) _ | exact ((hw.setCell (Nat.le_refl _) _).setCell (Nat.le_refl _) _).setCell (Nat.le_refl _) _

set_option maxRecDepth 100000 in
theorem truthR_any (b : Bool) (w : World) : Calls Tryz.prog 73 #[.bool b] w fun e w' => e = .returned (vV (trV b)) ∧ Below w.heap.size w w' := by
  have hw := bal (Below.refl w.heap.size w) (.cells #[.int .i64 0, .int .i64 0, .string ⟨#[]⟩] 44)
  cases b with
  | true =>
    go_enter Tryz.func73, Tryz.ntmps73
    go_wp2
    refine bodyPost_ret (v := .agg #[.int .i64 3, .int .i64 1, .string ⟨#[]⟩]) (by simp [results, Tryz.results73, go_sem]) rfl ⟨rfl, ?_⟩
    first | exact hw | exact bal (Below.refl _ _) _ | exact ((hw.setCell (Nat.le_refl _) _).setCell (Nat.le_refl _) _).setCell (Nat.le_refl _) _
  | false =>
    go_enter Tryz.func73, Tryz.ntmps73
    go_wp2
    refine bodyPost_ret (v := .agg #[.int .i64 3, .int .i64 0, .string ⟨#[]⟩]) (by simp [results, Tryz.results73, go_sem]) rfl ⟨rfl, ?_⟩
    first | exact hw | exact bal (Below.refl _ _) _ | exact ((hw.setCell (Nat.le_refl _) _).setCell (Nat.le_refl _) _).setCell (Nat.le_refl _) _

set_option maxRecDepth 100000 in
theorem intOfV_any (v : Vt) (k : Int) (w : World) : Calls Tryz.prog 137 #[vV v, .int .i64 k] w fun e w' => e = .returned (.tuple #[.int .i64 (knP v k).1, .int .i64 (knP v k).2]) ∧ Below w.heap.size w w' := by
  obtain ⟨v0, v1, v2⟩ := v
  have hw := bal (Below.refl w.heap.size w) (.cells #[.int .i64 v0, .int .i64 v1, .string v2] 44)
  by_cases h : v0 = k
  · rw [show knP (v0, v1, v2) k = (v1, 0) from if_pos h]
    subst h
    go_enter Tryz.func137, Tryz.ntmps137
    go_wp2
    exact bodyPost_ret (v := .tuple #[.int .i64 v1, .int .i64 0]) (by simp [results, Tryz.results137]) rfl ⟨rfl, hw⟩
  · rw [show knP (v0, v1, v2) k = (0, 11) from if_neg h]
    have h1 : (v0 != k) = true := by simpa using h
    have h2 : decide (v0 = k) = false := by simpa using h
    go_enter Tryz.func137, Tryz.ntmps137
    go_wp2
    exact bodyPost_ret (v := .tuple #[.int .i64 0, .int .i64 11]) (by simp [results, Tryz.results137]) rfl ⟨rfl, hw⟩

set_option maxRecDepth 100000 in
theorem stands_any (op o : Int) (w : World) : Calls Tryz.prog 149 #[.int .i64 op, .int .i64 o] w fun e w' => e = .returned (.bool (standsP op o)) ∧ w' = w := by
  by_cases h8 : op = 8
  · subst h8
    rw [show standsP 8 o = (decide (o = 0)) from rfl]
    go_enter Tryz.func149, Tryz.ntmps149
    go_wp2
    go_ret
    exact ⟨ret_bool (by first | rfl | (rw [Bool.eq_iff_iff]; simp)), rfl⟩
  have g8 : decide (op = 8) = false := by simpa using h8
  by_cases h9 : op = 9
  · subst h9
    rw [show standsP 9 o = (!decide (o = 0)) from rfl]
    go_enter Tryz.func149, Tryz.ntmps149
    go_wp2
    go_ret
    exact ⟨ret_bool (by first | rfl | (rw [Bool.eq_iff_iff]; simp)), rfl⟩
  have g9 : decide (op = 9) = false := by simpa using h9
  by_cases h10 : op = 10
  · subst h10
    rw [show standsP 10 o = (decide (o < 0)) from rfl]
    go_enter Tryz.func149, Tryz.ntmps149
    go_wp2
    go_ret
    exact ⟨ret_bool (by first | rfl | (rw [Bool.eq_iff_iff]; simp)), rfl⟩
  have g10 : decide (op = 10) = false := by simpa using h10
  by_cases h11 : op = 11
  · subst h11
    rw [show standsP 11 o = (decide (o ≤ 0)) from rfl]
    go_enter Tryz.func149, Tryz.ntmps149
    go_wp2
    go_ret
    exact ⟨ret_bool (by first | rfl | (rw [Bool.eq_iff_iff]; simp)), rfl⟩
  have g11 : decide (op = 11) = false := by simpa using h11
  by_cases h12 : op = 12
  · subst h12
    rw [show standsP 12 o = (decide (0 < o)) from rfl]
    go_enter Tryz.func149, Tryz.ntmps149
    go_wp2
    go_ret
    exact ⟨ret_bool (by first | rfl | (rw [Bool.eq_iff_iff]; simp)), rfl⟩
  have g12 : decide (op = 12) = false := by simpa using h12
  rw [show standsP op o = decide (0 ≤ o) from by simp [standsP, h8, h9, h10, h11, h12]]
  go_enter Tryz.func149, Tryz.ntmps149
  go_wp2
  go_ret
  exact ⟨ret_bool (by first | rfl | (rw [Bool.eq_iff_iff]; simp)), rfl⟩

end Go.Proofs.YtnlaaejdianfjaaGreat
