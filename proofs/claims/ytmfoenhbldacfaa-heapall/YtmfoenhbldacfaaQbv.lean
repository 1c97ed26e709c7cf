import Derived.Test.YtmfoenhbldacfaaQbu
import Derived.Deep.Slices
import Derived.Deep.Strs
import Derived.Lib.SmallJoins
/- HeapAll -/
namespace Go.Proofs.Ytmfoenhbldacfaa
open Go.RowKit Go.Shelf
set_option linter.unusedVariables false
set_option linter.unusedSimpArgs false

set_option maxRecDepth 1000000 in
set_option maxHeartbeats 2000000 in
theorem sw_any {W w : World} {hb ob xb k j kk m : Nat} {A C : List Rec} {vi vr : Value} {K S D X d : Int} {is : Bool} {bs : List Int} (S6 : Hid (Sg W w hb (fun x => lk (A ++ C) x) (A ++ C).length k (A ++ C) vi vr)) (O6 : Hid (Ob w ob K S D X)) (bxW : Hid (Bx8 W w xb bs)) (hSpl : Hid (Spl (A ++ C) D kk A C)) (his : Hid (is = decide (kk < (A ++ C).length ∧ nth (ks (A ++ C)) kk = D))) (hLk : Hid ((A ++ C).length ≤ j ∧ k ≤ j)) (hj : j < 80) (hm : m ≤ 300) (hbl : Hid (bs.length = m)) (hby : Hid (By bs)) (hd0 : 0 ≤ d) (hd7 : d ≤ 7) {u0 u1 u2 u6 u11 u13 u14 u15 u16 u17 u18 u19 u20 u21 u22 u23 u24 u25 u26 u27 u28 u29 u30 u31 u32 u33 u34 u35 u36 u37 u38 u39 u40 u41 u42 u43 u44 u45 u46 u47 u48 u49 u50 u51 u52 u53 u54 u55 u56 u57 u58 u59 u60 u61 u62 u63 u64 u65 u66 u67 u68 u69 u70 u71 u72 u73 u74 u75 u76 u77 u78 u79 u80 u81 u82 u83 u84 u85 u86 u87 u88 u89 u90 u91 u92 u93 u94 u95 u96 u97 u98 u99 u100 u101 u102 u103 u104 u105 u106 u107 u108 u109 u110 u111 u112 u113 u114 u115 u116 u117 u118 u119 u120 u121 u122 u123 u124 u125 u126 u127 u128 u129 u130 u131 u132 u133 u134 u135 u136 u137 u138 u139 u140 u141 u142 u143 u144 u145 u146 u147 u148 u149 u150 u151 u152 u153 u154 u155 u156 u157 u158 u159 u160 u161 u162 u163 u164 u165 u166 u167 u168 u169 u170 u171 u172 u173 u174 u175 u176 u177 u178 u179 u180 u181 u182 u183 u184 u185 u186 u187 u188 u189 u190 u191 u192 u193 u194 u195 u196 u197 u198 u199 u200 u201 u202 u203 u204 u205 u206 u207 u208 u209 : Value} {K' : Act → World → Prop} {Q : Exit → Act → World → Prop}
    (hK : Hid (∀ (x2 v4 v5 x13 x14 x15 x16 x85 x86 x87 x88 x89 x90 x91 x92 x93 x94 x95 x96 x97 x98 x99 x100 x101 x102 x103 x104 x105 x106 x107 x108 x109 x110 x111 x112 x113 x114 x115 x116 x117 x118 x119 x120 x121 x122 x123 x124 x125 x126 x127 x128 x129 x130 x131 x132 x133 x134 x135 x136 x137 x138 x139 x140 x141 x142 x143 x144 x145 x146 x147 x148 x149 x150 x151 x152 x153 x154 x155 x156 x157 x158 x159 x160 x161 x162 x163 x164 x165 x166 x167 x168 x169 x170 x171 x172 x173 x174 x175 x176 x177 x178 x179 x180 x181 x182 x183 x184 x185 x186 x187 x188 x189 x190 x191 x192 x193 x194 x195 x196 x197 x198 x199 x200 x201 x202 : Value) (w' : World), (∃ (L' : List Rec) (k' : Nat), Hid (L'.length ≤ j + 1 ∧ k' ≤ j + 1) ∧ Sg W w' hb (fun x => lk L' x) L'.length k' L' v4 v5 ∧ Ob w' ob K S D X) → K' ⟨#[u0, u1, x2, .pointer (some ⟨hb, 0, none⟩), v4, v5, u6, .pointer (some ⟨ob, 0, none⟩), .int .i64 (kk : Int), .bool is, .slice (some ⟨xb, 0, none⟩) m m, u11, .int .i64 d, x13, x14, x15, x16, u17, u18, u19, u20, u21, u22, u23, u24, u25, u26, u27, u28, u29, u30, u31, u32, u33, u34, u35, u36, u37, u38, u39, u40, u41, u42, u43, u44, u45, u46, u47, u48, u49, u50, u51, u52, u53, u54, u55, u56, u57, u58, u59, u60, u61, u62, u63, u64, u65, u66, u67, u68, u69, u70, u71, u72, u73, u74, u75, u76, u77, u78, u79, u80, u81, u82, u83, u84, x85, x86, x87, x88, x89, x90, x91, x92, x93, x94, x95, x96, x97, x98, x99, x100, x101, x102, x103, x104, x105, x106, x107, x108, x109, x110, x111, x112, x113, x114, x115, x116, x117, x118, x119, x120, x121, x122, x123, x124, x125, x126, x127, x128, x129, x130, x131, x132, x133, x134, x135, x136, x137, x138, x139, x140, x141, x142, x143, x144, x145, x146, x147, x148, x149, x150, x151, x152, x153, x154, x155, x156, x157, x158, x159, x160, x161, x162, x163, x164, x165, x166, x167, x168, x169, x170, x171, x172, x173, x174, x175, x176, x177, x178, x179, x180, x181, x182, x183, x184, x185, x186, x187, x188, x189, x190, x191, x192, x193, x194, x195, x196, x197, x198, x199, x200, x201, x202, u203, u204, u205, u206, u207, u208, u209], []⟩ w')) :
    Code.wp Try.prog (blkA 6) (Exit.then K' Q) ⟨#[u0, u1, u2, .pointer (some ⟨hb, 0, none⟩), vi, vr, u6, .pointer (some ⟨ob, 0, none⟩), .int .i64 (kk : Int), .bool is, .slice (some ⟨xb, 0, none⟩) m m, u11, .int .i64 d, u13, u14, u15, u16, u17, u18, u19, u20, u21, u22, u23, u24, u25, u26, u27, u28, u29, u30, u31, u32, u33, u34, u35, u36, u37, u38, u39, u40, u41, u42, u43, u44, u45, u46, u47, u48, u49, u50, u51, u52, u53, u54, u55, u56, u57, u58, u59, u60, u61, u62, u63, u64, u65, u66, u67, u68, u69, u70, u71, u72, u73, u74, u75, u76, u77, u78, u79, u80, u81, u82, u83, u84, u85, u86, u87, u88, u89, u90, u91, u92, u93, u94, u95, u96, u97, u98, u99, u100, u101, u102, u103, u104, u105, u106, u107, u108, u109, u110, u111, u112, u113, u114, u115, u116, u117, u118, u119, u120, u121, u122, u123, u124, u125, u126, u127, u128, u129, u130, u131, u132, u133, u134, u135, u136, u137, u138, u139, u140, u141, u142, u143, u144, u145, u146, u147, u148, u149, u150, u151, u152, u153, u154, u155, u156, u157, u158, u159, u160, u161, u162, u163, u164, u165, u166, u167, u168, u169, u170, u171, u172, u173, u174, u175, u176, u177, u178, u179, u180, u181, u182, u183, u184, u185, u186, u187, u188, u189, u190, u191, u192, u193, u194, u195, u196, u197, u198, u199, u200, u201, u202, u203, u204, u205, u206, u207, u208, u209], []⟩ w := by
  by_cases hd : d < 4
  · exact sw_put S6 O6 bxW hSpl his hLk hj hm hbl hby hd hK
  · by_cases h6 : d < 6
    · exact sw_drop S6 O6 bxW hSpl his hLk hj hm hbl hby hd h6 hK
    · by_cases h7 : d = 7
      · exact sw_copy S6 O6 bxW hSpl his hLk hj hm hbl hby h7 hK
      · exact sw_none S6 O6 bxW hSpl his hLk hj hm hbl hby (by omega) hK

set_option maxRecDepth 100000 in
set_option maxHeartbeats 2000000 in
theorem heapAll_any {W : World} {a : Option Addr} {n c : Nat} (hx : RdQ W a n c) :
    Calls Try.prog 3 #[.slice a n c] W fun e w' => e = .returned (.bool true) ∧ Below W.heap.size W w' := by
  have HB : Hid _ := begun14_any W
  have hc1 := hx.cap
  have hc2 := hx.max
  by_cases hn : 80 < n
  · have g1 : decide ((80 : Int) < (n : Int)) = true := by simp; omega
    clear hx
    go_enter Try.func3, Try.ntmps3
    go_wp2_with fail
    refine Calls.mono HB.out ?_
    rintro e w0 ⟨rfl, hb0⟩
    go_wp2
    go_ret
    exact ⟨rfl, hb0⟩
  · have g1 : decide ((80 : Int) < (n : Int)) = false := by simp; omega
    have HN : Hid (∀ w1, Below W.heap.size W w1 → _) := hid (fun w1 k => hnew_any w1 W.heap.size k.size)
    have HX : Hid (RdQ W a n c) := hid hx
    clear hx
    go_enter Try.func3, Try.ntmps3
    go_wp2_with fail
    refine Calls.mono HB.out ?_
    rintro e w0 ⟨rfl, hb0⟩
    have HN2 : Hid _ := hid (HN.out w0 hb0)
    clear HB HN
    go_wp2_with fail
    refine Calls.mono HN2.out ?_
    rintro e w1 ⟨hb, rfl, hA1, hb1⟩
    have S0 : Sg W w1 hb (fun _ => none) 0 0 [] (.slice none 0 0) (.slice none 0 0) := ⟨hA1, List.Pairwise.nil, (fun p hp => by cases hp), Ro.nil _ _ _, Ro.nil _ _ _, bthen hb0 hb1⟩
    clear HN2 hA1 hb0 hb1
    go_wp2_with fail
    go_loopw [4, 5, 6] (fun v4 v5 v wr => ∃ (j : Nat) (L : List Rec) (k : Nat) (vi vr : Value), j ≤ n ∧ vi = v4 ∧ vr = v5 ∧ v = .int .i64 (j : Int) ∧ Hid (L.length ≤ j ∧ k ≤ j) ∧ Sg W wr hb (fun x => lk L x) L.length k L vi vr) (fun _ _ v _ => n - (intOf v).toNat)
    case atStart => exact ⟨0, [], 0, _, _, Nat.zero_le _, rfl, rfl, rfl, hid ⟨Nat.le_refl _, Nat.le_refl _⟩, S0⟩
    case round =>
      clear S0
      obtain ⟨j, L, k, vi, vr, hj, rfl, rfl, rfl, hLk, S2⟩ := hrel
      by_cases hjl : j < n
      · have g2 : decide ((j : Int) < (n : Int)) = true := by simpa using hjl
        have hjn : (j : Int) < (n : Int) := by omega
        have hj80 : j < 80 := by omega
        have hx2 := HX.out.later S2.bel
        obtain ⟨b1, o1, ha, hcc⟩ := hx2.cells (by omega)
        obtain ⟨K, S, D, X, k0, k1, k2, k3, c0, c1, c2, c3⟩ := hcc j hjl
        clear hx2 hcc
        subst ha
        have hb3 := (Below.refl wr.heap.size wr).alloc (Nat.le_refl _) (.cells #[Value.int .i64 K, Value.int .i64 S, Value.int .u64 D, Value.int .u8 X] 30)
        have O3 : Ob (wr.alloc (.cells #[Value.int .i64 K, Value.int .i64 S, Value.int .u64 D, Value.int .u8 X] 30)) wr.heap.size K S D X := ⟨heap_alloc_last wr _⟩
        have S3 := S2.later hb3
        clear S2
        go_upto_region 12 with fail
        clear c0 c1 c2 c3 hb3
        generalize (wr.alloc (.cells #[Value.int .i64 K, Value.int .i64 S, Value.int .u64 D, Value.int .u8 X] 30)) = w3 at *
        generalize wr.heap.size = ob at *
        obtain ⟨l, hl⟩ : ∃ l, L.length = l := ⟨_, rfl⟩
        have hl80 : l ≤ 80 := by have := hLk.out.1; omega
        replace hl : Hid _ := hid hl
        replace S3 : Hid _ := hid S3
        replace O3 : Hid _ := hid O3
        go_upto_block 2 with fail
        refine loop2_any (hid S3.out.ids) hl hl80 O3 (hid ?_)
        intro v8; intros; rename_i w4 hq4
        dsimp only
        obtain ⟨kk, rfl, hkk, hlow, hhi, hB4⟩ := hq4
        obtain ⟨A, C, hSpl⟩ : ∃ A C, Hid (Spl L D kk A C) := ⟨_, _, hid (spl_of S3.out.srt (by rw [hl.out]; exact hkk) hlow.out (by rw [hl.out]; exact hhi.out))⟩
        obtain rfl : L = A ++ C := hSpl.out.eq
        have S4 : Hid _ := hid (S3.out.later hB4)
        have O4 : Hid _ := hid (O3.out.later hB4)
        clear hlow hhi S3 O3 hB4
        go_upto_region 15 with fail
        go_cut [9] (fun v9 wd => ∃ is : Bool, v9 = .bool is ∧ Hid (is = decide (kk < (A ++ C).length ∧ nth (ks (A ++ C)) kk = D)) ∧ Below w4.heap.size w4 wd)
        case first =>
          have e2 := O4.out.c2
          have hC : Below w4.heap.size w4 w4.drew := (Below.refl _ _).drew
          by_cases hkl : kk < l
          · obtain ⟨g, c, e, _, _, _, _, hc⟩ := S4.out.ids.at (idC_at (by rw [hl.out]; exact hkl))
            have ec := hc _ _ (idC_at (by rw [hl.out]; exact hkl))
            rw [idC_len, hl.out] at e
            obtain ⟨x, hxx⟩ : ∃ x, nth (ks (A ++ C)) kk = x := ⟨_, rfl⟩
            rw [hxx] at ec
            subst e
            clear hc
            have g3 : decide ((kk : Int) < (l : Int)) = true := by simpa using hkl
            have hkli : (kk : Int) < (l : Int) := by omega
            by_cases he : x = D
            · have g4 : (x == D) = true := by simpa using he
              have hE : Hid (true = decide (kk < (A ++ C).length ∧ nth (ks (A ++ C)) kk = D)) := hid (by rw [hxx, hl.out]; simp [hkl, he])
              clear he hxx S4 O4 hSpl
              go_region_held3 (fun w' => w'.cell? ⟨g, kk, none⟩ = some (.int .u64 x) ∧ w'.cell? ⟨ob, 2, none⟩ = some (.int .u64 D)) (go_keep) (fail)
              all_goals
                go_wp2
                go_meet
                exact ⟨true, rfl, hE, hC⟩
            · have g4 : (x == D) = false := by simpa using he
              have hE : Hid (false = decide (kk < (A ++ C).length ∧ nth (ks (A ++ C)) kk = D)) := hid (by rw [hxx]; simp [he])
              clear he hxx S4 O4 hSpl
              go_region_held3 (fun w' => w'.cell? ⟨g, kk, none⟩ = some (.int .u64 x) ∧ w'.cell? ⟨ob, 2, none⟩ = some (.int .u64 D)) (go_keep) (fail)
              all_goals
                go_wp2
                go_meet
                exact ⟨false, rfl, hE, hC⟩
          · have g3 : decide ((kk : Int) < (l : Int)) = false := by simpa using hkl
            have hE : Hid (false = decide (kk < (A ++ C).length ∧ nth (ks (A ++ C)) kk = D)) := hid (by rw [hl.out]; simp [hkl])
            obtain ⟨a4, c4, hv, -⟩ := S4.out.ids.sl
            rw [idC_len, hl.out] at hv
            subst hv
            clear S4 O4 hSpl hC
            have hB4 : Below w4.heap.size w4 w4 := Below.refl _ _
            go_region
            all_goals
              have hC := hB4.drew
              go_wp2
              go_meet
              exact ⟨false, rfl, hE, hC⟩
        case rest =>
          obtain ⟨is, rfl, his, hB5⟩ := hcut
          have S5 : Hid _ := hid (S4.out.later hB5)
          have O5 : Hid _ := hid (O4.out.later hB5)
          clear S4 O4 hB5
          generalize wc = w5 at *
          go_upto_region 16 with fail
          refine reg16_any O5 (hid ?_)
          intro v10; intros; rename_i w6 hq6
          dsimp only
          obtain ⟨m, xb, rfl, hm, bx6, hb6⟩ := hq6
          have S6 : Hid _ := hid (S5.out.later hb6)
          have O6 : Hid _ := hid (O5.out.later hb6)
          have hxW : Hid (W.heap.size ≤ xb) := hid (Nat.le_trans S5.out.bel.size bx6.own)
          clear S5 O5 hb6
          go_upto_block 4 with fail
          refine loop3_any O6 k0 hm bx6 (hid List.length_replicate) (hid (by_zeros m)) (hid ?_)
          intros; rename_i w7 hq7
          dsimp only
          obtain ⟨bs, hbl, hby, bx7, hr7⟩ := hq7
          have S7 : Hid _ := hid (S6.out.rest8 hr7 bx6.row hxW.out)
          have O7 : Hid _ := hid (O6.out.rest hr7 bx6.row (by decide))
          have bxW : Hid (Bx8 W w7 xb bs) := hid ⟨bx7.row, hxW.out⟩
          clear S6 O6 bx6 bx7 hr7
          have oc0 := O7.out.c0
          go_upto_region 21 with fail
          go_cut [12] (fun dv wd => ∃ d : Int, 0 ≤ d ∧ d ≤ 7 ∧ dv = .int .i64 d ∧ w7 = wd)
          case first =>
            obtain ⟨kb1, kb2⟩ := kd8 K
            go_wp2
            go_meet
            exact ⟨_, kb1, kb2, rfl, rfl⟩
          case rest =>
            obtain ⟨d, hd0, hd7, rfl, rfl⟩ := hcut
            clear oc0
            go_upto_block 6 with fail
            refine sw_any S7 O7 bxW hSpl his hLk hj80 hm hbl hby hd0 hd7 (hid ?_)
            intro x2 v4 v5; intros; rename_i w8 hq8
            dsimp only
            clear S7 O7 bxW hSpl his hbl hby
            obtain ⟨L', k', hLk', S9, O9⟩ := hq8
            have e2 := O9.c2
            have HSm : Hid _ := hid (hsame_any S9.ha S9.srt S9.few S9.ids S9.recs (by have := hLk'.out; omega) D)
            have S10 : Hid _ := hid (fun w' h => S9.later (w' := w') h)
            clear S9 O9
            go_wp2_with fail
            refine Calls.mono HSm.out ?_
            rintro e w10 ⟨rfl, hb10⟩
            have S11 := S10.out _ hb10
            clear e2 HSm hb10 S10
            go_wp2
            go_roundw
            case rel => exact ⟨j + 1, L', k', _, _, hjl, rfl, rfl, by go_num, hLk', S11⟩
            case measure => simp [intOf]; omega
      · obtain rfl : j = n := by omega
        have g2 : decide ((j : Int) < (j : Int)) = false := by simp
        clear HX
        go_wp2_with fail
        go_ret
        exact ⟨rfl, S2.bel⟩

end Go.Proofs.Ytmfoenhbldacfaa
/- Operations that came in. -/
namespace Go.Proofs.Ytmfoenhbldacfaa
open Go.ChangeShapes Go.WideShapes Go.ChangeAt Go.RowKit
set_option linter.unusedVariables false
set_option linter.unusedSimpArgs false

theorem cOp : Try.prog.cellsOf 30 = 4 := by kernel_rfl
theorem c3x : Try.prog.cellsOf 3 = 1 := by kernel_rfl
theorem c5x : Try.prog.cellsOf 5 = 1 := by kernel_rfl
theorem addr_at (b o m : Nat) : (⟨b, o, none⟩ : Addr).add m = ⟨b, o + m, none⟩ := by unfold Addr.add; split <;> simp_all
theorem c8x : Try.prog.cellsOf 28 = 1 := by kernel_rfl
theorem i64_of {n : Int} (h : (Lit.int .i64 n).wf = true) : -9223372036854775808 ≤ n ∧ n ≤ 9223372036854775807 := bounds_i64 h
set_option maxRecDepth 100000 in
theorem open_ops {H : Type} {enc : TypeId × Value → H} {W : World} {r : Reach} {b0 base : Nat} {sp : Nat → Bool} {held : Bool} {v : Value} {d : DataW H} {ps : List MemPlace} (hval : Value.okWide Try.prog W r b0 22 v) (hd : DataW.Trod enc Try.prog W base sp held 22 v d ps) :
    ∃ a len cap, ∃ C : List (Int × Int × Int × Int), v = .slice a len cap ∧ RdQ W a len cap := by
  obtain ⟨a, len, cap, rfl⟩ := okWide_slice Try.underlying22 hval
  obtain ⟨fuel, hf⟩ := hd
  rcases Go.Deep.open_slice Try.underlying22 hf with ⟨hcs, _⟩ | ⟨x, l, c, m, nn, D, Pl, hcs, hb, hl, hm, hmm, _, hx⟩
  · simp [Value.cells] at hcs
    obtain ⟨rfl, rfl, rfl⟩ := hcs
    exact ⟨none, 0, 0, [], rfl, Nat.le_refl _, by omega, fun h => absurd h (Nat.lt_irrefl _)⟩
  · simp [Value.cells] at hcs
    obtain ⟨rfl, rfl, rfl⟩ := hcs
    have hlm : len ≤ m := by rw [hmm]; split <;> omega
    have one : ∀ i, i < len → ∃ u : Int × Int × Int × Int, ((0 ≤ u.2.2.2 ∧ u.2.2.2 ≤ 255) ∧ (-9223372036854775808 ≤ u.1 ∧ u.1 ≤ 9223372036854775807) ∧ (-9223372036854775808 ≤ u.2.1 ∧ u.2.1 ≤ 9223372036854775807) ∧ (0 ≤ u.2.2.1 ∧ u.2.2.1 ≤ 18446744073709551615)) ∧ ∀ j, j < 4 → W.cell? ((x.add (i * 4)).add j) = ([.int .i64 u.1, .int .i64 u.2.1, .int .u64 u.2.2.1, .int .u8 u.2.2.2] : List Value)[j]? := by
      intro i hi
      obtain ⟨cs, h1, h2⟩ := hx i (by omega)
      rw [cOp] at h1
      obtain ⟨_, hlen, hcell⟩ := World.cells?_some h1
      match cs, hlen with
      | [c0, c1, c2, c3], _ =>
      obtain ⟨y0, y1, y2, y3, k, _, _, hy0, hy1, hy2, hy3⟩ := Go.Joins.trod_struct4 Try.underlying30 h2
      simp only [c3x, c5x, c8x, List.drop_zero, List.take_succ_cons, List.take_zero, List.drop_succ_cons] at hy0 hy1 hy2 hy3
      obtain ⟨a0, e0, _, wa⟩ := DataW.trod_int Try.underlying3 hy0
      obtain ⟨a1, e1, _, wb⟩ := DataW.trod_int Try.underlying3 hy1
      obtain ⟨a2, e2, _, wc⟩ := DataW.trod_int Try.underlying28 hy2
      obtain ⟨a3, e3, _, we⟩ := DataW.trod_int Try.underlying5 hy3
      cases e0
      cases e1
      cases e2
      cases e3
      exact ⟨(a0, a1, a2, a3), ⟨bounds_u8 we, i64_of wa, i64_of wb, bounds_u64 wc⟩, hcell⟩
    refine ⟨some x, len, cap, [], rfl, hl, by simpa [maxLen] using hm, fun hp => ?_⟩
    obtain ⟨b, off, spot⟩ := x
    obtain ⟨u0, _, h0⟩ := one 0 hp
    have hspot : spot = none := by simpa [Addr.add] using World.cell?_spot (h0 0 (by decide))
    subst hspot
    refine ⟨b, off, rfl, fun i hi => ?_⟩
    obtain ⟨⟨k, s, z, x⟩, ⟨b0, b1, b2, b3⟩, hc⟩ := one i hi
    have g0 := hc 0 (by decide)
    have g1 := hc 1 (by decide)
    have g2 := hc 2 (by decide)
    have g3 := hc 3 (by decide)
    rw [addr_at, addr_at] at g0 g1 g2 g3
    exact ⟨k, s, z, x, b0, b1, b2, b3, g0, g1, g2, g3⟩

end Go.Proofs.Ytmfoenhbldacfaa
