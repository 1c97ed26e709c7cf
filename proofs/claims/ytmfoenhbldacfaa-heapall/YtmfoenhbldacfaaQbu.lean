import Derived.Test.YtmfoenhbldacfaaQbt
/- HeapAll: Put -/
namespace Go.Proofs.Ytmfoenhbldacfaa
open Go.RowKit Go.Shelf
set_option linter.unusedVariables false
set_option linter.unusedSimpArgs false

set_option maxRecDepth 1000000 in
set_option maxHeartbeats 2000000 in
theorem sw_put {W w : World} {hb ob xb k j kk m : Nat} {A C : List Rec} {vi vr : Value} {K S D X d : Int} {is : Bool} {bs : List Int} (S6 : Hid (Sg W w hb (fun x => lk (A ++ C) x) (A ++ C).length k (A ++ C) vi vr)) (O6 : Hid (Ob w ob K S D X)) (bxW : Hid (Bx8 W w xb bs)) (hSpl : Hid (Spl (A ++ C) D kk A C)) (his : Hid (is = decide (kk < (A ++ C).length ∧ nth (ks (A ++ C)) kk = D))) (hLk : Hid ((A ++ C).length ≤ j ∧ k ≤ j)) (hj : j < 80) (hm : m ≤ 300) (hbl : Hid (bs.length = m)) (hby : Hid (By bs)) (hd : d < 4) {u0 u1 u2 u6 u11 u13 u14 u15 u16 u17 u18 u19 u20 u21 u22 u23 u24 u25 u26 u27 u28 u29 u30 u31 u32 u33 u34 u35 u36 u37 u38 u39 u40 u41 u42 u43 u44 u45 u46 u47 u48 u49 u50 u51 u52 u53 u54 u55 u56 u57 u58 u59 u60 u61 u62 u63 u64 u65 u66 u67 u68 u69 u70 u71 u72 u73 u74 u75 u76 u77 u78 u79 u80 u81 u82 u83 u84 u85 u86 u87 u88 u89 u90 u91 u92 u93 u94 u95 u96 u97 u98 u99 u100 u101 u102 u103 u104 u105 u106 u107 u108 u109 u110 u111 u112 u113 u114 u115 u116 u117 u118 u119 u120 u121 u122 u123 u124 u125 u126 u127 u128 u129 u130 u131 u132 u133 u134 u135 u136 u137 u138 u139 u140 u141 u142 u143 u144 u145 u146 u147 u148 u149 u150 u151 u152 u153 u154 u155 u156 u157 u158 u159 u160 u161 u162 u163 u164 u165 u166 u167 u168 u169 u170 u171 u172 u173 u174 u175 u176 u177 u178 u179 u180 u181 u182 u183 u184 u185 u186 u187 u188 u189 u190 u191 u192 u193 u194 u195 u196 u197 u198 u199 u200 u201 u202 u203 u204 u205 u206 u207 u208 u209 : Value} {K' : Act → World → Prop} {Q : Exit → Act → World → Prop}
    (hK : Hid (∀ (x2 v4 v5 x13 x14 x15 x16 x85 x86 x87 x88 x89 x90 x91 x92 x93 x94 x95 x96 x97 x98 x99 x100 x101 x102 x103 x104 x105 x106 x107 x108 x109 x110 x111 x112 x113 x114 x115 x116 x117 x118 x119 x120 x121 x122 x123 x124 x125 x126 x127 x128 x129 x130 x131 x132 x133 x134 x135 x136 x137 x138 x139 x140 x141 x142 x143 x144 x145 x146 x147 x148 x149 x150 x151 x152 x153 x154 x155 x156 x157 x158 x159 x160 x161 x162 x163 x164 x165 x166 x167 x168 x169 x170 x171 x172 x173 x174 x175 x176 x177 x178 x179 x180 x181 x182 x183 x184 x185 x186 x187 x188 x189 x190 x191 x192 x193 x194 x195 x196 x197 x198 x199 x200 x201 x202 : Value) (w' : World), (∃ (L' : List Rec) (k' : Nat), Hid (L'.length ≤ j + 1 ∧ k' ≤ j + 1) ∧ Sg W w' hb (fun x => lk L' x) L'.length k' L' v4 v5 ∧ Ob w' ob K S D X) → K' ⟨#[u0, u1, x2, .pointer (some ⟨hb, 0, none⟩), v4, v5, u6, .pointer (some ⟨ob, 0, none⟩), .int .i64 (kk : Int), .bool is, .slice (some ⟨xb, 0, none⟩) m m, u11, .int .i64 d, x13, x14, x15, x16, u17, u18, u19, u20, u21, u22, u23, u24, u25, u26, u27, u28, u29, u30, u31, u32, u33, u34, u35, u36, u37, u38, u39, u40, u41, u42, u43, u44, u45, u46, u47, u48, u49, u50, u51, u52, u53, u54, u55, u56, u57, u58, u59, u60, u61, u62, u63, u64, u65, u66, u67, u68, u69, u70, u71, u72, u73, u74, u75, u76, u77, u78, u79, u80, u81, u82, u83, u84, x85, x86, x87, x88, x89, x90, x91, x92, x93, x94, x95, x96, x97, x98, x99, x100, x101, x102, x103, x104, x105, x106, x107, x108, x109, x110, x111, x112, x113, x114, x115, x116, x117, x118, x119, x120, x121, x122, x123, x124, x125, x126, x127, x128, x129, x130, x131, x132, x133, x134, x135, x136, x137, x138, x139, x140, x141, x142, x143, x144, x145, x146, x147, x148, x149, x150, x151, x152, x153, x154, x155, x156, x157, x158, x159, x160, x161, x162, x163, x164, x165, x166, x167, x168, x169, x170, x171, x172, x173, x174, x175, x176, x177, x178, x179, x180, x181, x182, x183, x184, x185, x186, x187, x188, x189, x190, x191, x192, x193, x194, x195, x196, x197, x198, x199, x200, x201, x202, u203, u204, u205, u206, u207, u208, u209], []⟩ w')) :
    Code.wp Try.prog (blkA 6) (Exit.then K' Q) ⟨#[u0, u1, u2, .pointer (some ⟨hb, 0, none⟩), vi, vr, u6, .pointer (some ⟨ob, 0, none⟩), .int .i64 (kk : Int), .bool is, .slice (some ⟨xb, 0, none⟩) m m, u11, .int .i64 d, u13, u14, u15, u16, u17, u18, u19, u20, u21, u22, u23, u24, u25, u26, u27, u28, u29, u30, u31, u32, u33, u34, u35, u36, u37, u38, u39, u40, u41, u42, u43, u44, u45, u46, u47, u48, u49, u50, u51, u52, u53, u54, u55, u56, u57, u58, u59, u60, u61, u62, u63, u64, u65, u66, u67, u68, u69, u70, u71, u72, u73, u74, u75, u76, u77, u78, u79, u80, u81, u82, u83, u84, u85, u86, u87, u88, u89, u90, u91, u92, u93, u94, u95, u96, u97, u98, u99, u100, u101, u102, u103, u104, u105, u106, u107, u108, u109, u110, u111, u112, u113, u114, u115, u116, u117, u118, u119, u120, u121, u122, u123, u124, u125, u126, u127, u128, u129, u130, u131, u132, u133, u134, u135, u136, u137, u138, u139, u140, u141, u142, u143, u144, u145, u146, u147, u148, u149, u150, u151, u152, u153, u154, u155, u156, u157, u158, u159, u160, u161, u162, u163, u164, u165, u166, u167, u168, u169, u170, u171, u172, u173, u174, u175, u176, u177, u178, u179, u180, u181, u182, u183, u184, u185, u186, u187, u188, u189, u190, u191, u192, u193, u194, u195, u196, u197, u198, u199, u200, u201, u202, u203, u204, u205, u206, u207, u208, u209], []⟩ w := by
  conv => arg 2; whnf
  have g5 : decide (d < 4) = true := by simpa using hd
  have hl80 : (A ++ C).length ≤ 80 := by have := hLk.out.1; omega
  have hk80 : k ≤ 80 := by have := hLk.out.2; omega
  replace hl80 : Hid _ := hid hl80
  go_upto_region 24 with fail
  go_cut [95] from 88 to 95 (fun v95 wd => ∃ b0 : Bool, v95 = .bool b0 ∧ Hid (b0 = decide (m = 0 ∨ 200 < m)) ∧ w = wd)
  case first =>
    by_cases m0 : m = 0
    · have g6 : ((m : Int) == 0) = true := by simp; omega
      have hE : Hid (true = decide (m = 0 ∨ 200 < m)) := hid (by simp [m0])
      clear m0
      go_wp2
      go_meet
      exact ⟨true, rfl, hE, rfl⟩
    · have g6 : ((m : Int) == 0) = false := by simp; omega
      by_cases m2 : 200 < m
      · have g7 : decide ((200 : Int) < (m : Int)) = true := by simp; omega
        have hE : Hid (true = decide (m = 0 ∨ 200 < m)) := hid (by simp [m2])
        go_wp2
        go_meet
        exact ⟨true, rfl, hE, rfl⟩
      · have g7 : decide ((200 : Int) < (m : Int)) = false := by simp; omega
        have hE : Hid (false = decide (m = 0 ∨ 200 < m)) := hid (by simp [m0, m2])
        go_wp2
        go_meet
        exact ⟨false, rfl, hE, rfl⟩
  case rest =>
  obtain ⟨b0, rfl, hb0, hw0⟩ := hcut
  rw [← hw0]
  clear hw0
  go_upto_if 95 with fail
  go_cut [13] from 88 to 95 (fun v13 wd => ∃ wn : Int, v13 = .int .i64 wn ∧ Hid (wn = if m = 0 ∨ 200 < m then 7 else 0) ∧ w = wd)
  case first =>
    cases b0 with
    | true =>
      have hE : Hid ((7 : Int) = if m = 0 ∨ 200 < m then 7 else 0) := hid (by rw [if_pos (of_decide_eq_true hb0.out.symm)])
      go_wp2
      go_meet
      exact ⟨7, rfl, hE, rfl⟩
    | false =>
      have hE : Hid ((0 : Int) = if m = 0 ∨ 200 < m then 7 else 0) := hid (by rw [if_neg (of_decide_eq_false hb0.out.symm)])
      go_wp2
      go_meet
      exact ⟨0, rfl, hE, rfl⟩
  case rest =>
    obtain ⟨wn, rfl, hwn, hw⟩ := hcut
    rw [← hw]
    clear hw
    have HT : Hid _ := hid (twin_any (bxW.out.rd hbl.out (by omega)) (by omega))
    go_wp2_with fail
    refine Calls.mono HT.out ?_
    rintro e w7 ⟨rfl, bt, hb7⟩
    have hxs : xb < w.heap.size := bxW.out.lt
    have hws := S6.out.bel.size
    have S7 := S6.out.later hb7
    have O7 := O6.out.later hb7
    have bx7 := bxW.out.later hb7
    obtain ⟨xt, hxt⟩ : ∃ xt, w.heap.size = xt := ⟨_, rfl⟩
    rw [hxt] at bt ⊢
    have hxx : Hid (xb ≠ xt) := hid (by omega)
    have bt7 : Bx8 W w7 xt (bs ++ e5) := ⟨bt.row, by omega⟩
    have e2 := O7.c2
    obtain ⟨M', N', hbad, hgood, HP⟩ : ∃ M' N', Hid ((m = 0 ∨ 200 < m) → M' = (fun x => lk (A ++ C) x) ∧ N' = (A ++ C).length) ∧ Hid (¬ (m = 0 ∨ 200 < m) → M' = (fun x => if x = D then some bs else lk (A ++ C) x) ∧ N' = if lk (A ++ C) D = none then (A ++ C).length + 1 else (A ++ C).length) ∧ Hid (Calls Try.prog 9 #[.pointer (some ⟨hb, 0, none⟩), .int .u64 D, .slice (some ⟨xt, 0, none⟩) m (m + 3)] w7 fun e w' => e = .returned (.int .i64 wn) ∧ HA W.heap.size w' hb M' N' (k + 1) ∧ Ft W.heap.size noX w7 w') := by
      have hrd : Rd .u8 w7 (some ⟨xt, 0, none⟩) bs.length (m + 3) bs := by
        rw [hbl.out]
        exact rd_prefix bt7.row hbl.out (by omega) (by omega)
      have hN := hl80.out
      by_cases bad : m = 0 ∨ 200 < m
      · refine ⟨_, _, hid fun _ => ⟨rfl, rfl⟩, hid fun h => absurd bad h, hid ?_⟩
        have e : wn = 7 := by rw [hwn.out, if_pos bad]
        have := hputno_any S7.ha D hrd hby.out (by
          rcases bad with h | h
          · exact .inl (List.eq_nil_of_length_eq_zero (by rw [hbl.out, h]))
          · exact .inr (by rw [hbl.out]; exact h)) (fun a ha => by cases ha; exact bt7.lt)
        rw [hbl.out] at this
        refine Calls.mono this ?_
        rintro e' w' ⟨rfl, hb'⟩
        exact ⟨by rw [e], (S7.ha.later hb').up (Nat.le_succ _), Ft.of hb'⟩
      · refine ⟨_, _, hid fun h => absurd h bad, hid fun _ => ⟨rfl, rfl⟩, hid ?_⟩
        have e : wn = 0 := by rw [hwn.out, if_neg bad]
        have := hput_any S7.ha D hrd hby.out (fun h => bad (.inl (by rw [← hbl.out, h]; rfl))) (by rw [hbl.out]; omega) (fun a ha => by cases ha; exact ⟨_, bt7.row⟩) (by omega) (by omega)
        rw [hbl.out] at this
        refine Calls.mono this ?_
        rintro e' w' ⟨rfl, hA, hf⟩
        exact ⟨by rw [e], hA, hf⟩
    clear HT bt hb7 hxs hws hxt
    go_wp2_with fail
    refine Calls.mono HP.out ?_
    rintro e w8 ⟨rfl, hA8, hf8⟩
    have S8 := S7.heap hA8 hf8
    have O8 := O7.ft hf8
    have bx8 := bx7.ft hf8
    have bt8 := bt7.ft hf8
    have g8 : (wn != wn) = false := by simp
    have HK : Hid _ := hid (kept_any bt8 (bx8.rd hbl.out (by omega)) (by omega))
    clear HP e2 S7 O7 bx7 bt7 hA8 hf8
    go_wp2_with fail
    refine Calls.mono HK.out ?_
    rintro e w9 ⟨rfl, hw9⟩
    rw [hw9]
    clear hw9 w9 HK
    have HSP : Hid _ := hid (spoil_any (n := m) (cap := m + 3) bt8.row (by simp [e5, hbl.out]) (by omega) (by omega))
    go_wp2_with fail
    refine Calls.mono HSP.out ?_
    rintro e w9 ⟨rfl, hr9⟩
    have S9 := S8.rest8 hr9 bt8.row bt8.own
    have O9 := O8.rest hr9 bt8.row (by decide)
    have bx9 := bx8.rest hr9 hxx.out
    clear HSP S8 O8 bx8 bt8 hr9 g8
    by_cases bad : m = 0 ∨ 200 < m
    · have hw7 : wn = 7 := by rw [hwn.out, if_pos bad]
      obtain ⟨rfl, rfl⟩ := hbad.out bad
      subst hw7
      clear hgood hbad hwn bad
      go_wp2
      exact hK.out _ _ _ _ _ _ _ _ _ _ _ _ _ _ _ _ _ _ _ _ _ _ _ _ _ _ _ _ _ _ _ _ _ _ _ _ _ _ _ _ _ _ _ _ _ _ _ _ _ _ _ _ _ _ _ _ _ _ _ _ _ _ _ _ _ _ _ _ _ _ _ _ _ _ _ _ _ _ _ _ _ _ _ _ _ _ _ _ _ _ _ _ _ _ _ _ _ _ _ _ _ _ _ _ _ _ _ _ _ _ _ _ _ _ _ _ _ _ _ _ _ _ _ _ _ _ ⟨A ++ C, k + 1, hid ⟨by have := hLk.out.1; omega, by have := hLk.out.2; omega⟩, S9, O9⟩
    · have hw7 : wn = 0 := by rw [hwn.out, if_neg bad]
      obtain ⟨rfl, rfl⟩ := hgood.out bad
      subst hw7
      have h0 : Hid (bs ≠ []) := hid (fun h => bad (.inl (by rw [← hbl.out, h]; rfl)))
      have h2 : Hid (bs.length ≤ 200) := hid (by rw [hbl.out]; omega)
      clear hgood hbad hwn bad
      cases is with
      | true =>
        obtain ⟨hk, he⟩ := of_decide_eq_true his.out.symm
        obtain ⟨g, c, e, hc1, hc2, ⟨A0, hA0⟩, ⟨u, hu⟩, hfz, L', hL', S10⟩ := S9.put_is hSpl.out hk he h0.out h2.out
        have O10 : Hid _ := hid (O9.rest (Rest.set g kk w9 (.string (strOfNums bs))) hA0 (by decide))
        replace S10 : Hid _ := hid S10
        have hcv := conv_rd (bx9.rd hbl.out (by omega))
        have hl9 := hl80.out
        obtain ⟨l, hl⟩ : ∃ l, (A ++ C).length = l := ⟨_, rfl⟩
        rw [hl] at hk e hc1 hl9
        have hLn : Hid (L'.length ≤ j + 1 ∧ k + 1 ≤ j + 1) := hid (by have := hLk.out; omega)
        have hkl : (kk : Int) < (l : Int) := by omega
        replace hl : Hid _ := hid hl
        clear hL' hA0 S9 O9 bx9 he
        subst e
        go_wp2
        exact hK.out _ _ _ _ _ _ _ _ _ _ _ _ _ _ _ _ _ _ _ _ _ _ _ _ _ _ _ _ _ _ _ _ _ _ _ _ _ _ _ _ _ _ _ _ _ _ _ _ _ _ _ _ _ _ _ _ _ _ _ _ _ _ _ _ _ _ _ _ _ _ _ _ _ _ _ _ _ _ _ _ _ _ _ _ _ _ _ _ _ _ _ _ _ _ _ _ _ _ _ _ _ _ _ _ _ _ _ _ _ _ _ _ _ _ _ _ _ _ _ _ _ _ _ _ _ _ ⟨L', k + 1, hLn, S10.out, O10.out⟩
      | false =>
        have hno : Hid (kk < (A ++ C).length → nth (ks (A ++ C)) kk ≠ D) := hid (fun h1 h2 => of_decide_eq_false his.out.symm ⟨h1, h2⟩)
        have HC33 : Hid (∀ w', Below w9.heap.size w9 w' → w'.cell? ⟨ob, 2, none⟩ = some (.int .u64 D)) := hid (fun w' h => (O9.later h).c2)
        have HC34 : Hid (∀ w10, Below w9.heap.size w9 w10 → ∀ w', Below w10.heap.size w10 w' → (convert 31 9 (.slice (some ⟨xb, 0, none⟩) m m)).run Try.prog w' = .ok (.string (strOfNums bs)) w') := hid (fun w10 h1 w' h => conv_rd ((bx9.later (bthen h1 h)).rd hbl.out (by omega)))
        replace S9 : Hid _ := hid S9
        replace O9 : Hid _ := hid O9
        clear bx9
        go_upto_region 33 with fail
        refine r33_any (L := A) S9.out.ids hSpl.out.len (Nat.le_trans hl80.out (by omega)) HC33 (hid ?_)
        intro v4; intros; rename_i w10 hb10 o10
        go_upto_region 34 with fail
        refine r34_any (L := A) (D := D) (S9.out.recs.later hb10) hSpl.out.len (Nat.le_trans hl80.out (by omega)) (hid (HC34.out w10 hb10)) (hid ?_)
        intro v5; intros; rename_i w11 hb11 o11
        obtain ⟨L', hL', S11⟩ := S9.out.put_no hSpl.out hno.out h0.out h2.out (bthen hb10 hb11) (o10.later hb11) (o11.lower hb10.size)
        have hLn : Hid (L'.length ≤ j + 1 ∧ k + 1 ≤ j + 1) := hid (by have := hLk.out; omega)
        clear hL'
        go_wp2
        exact hK.out _ _ _ _ _ _ _ _ _ _ _ _ _ _ _ _ _ _ _ _ _ _ _ _ _ _ _ _ _ _ _ _ _ _ _ _ _ _ _ _ _ _ _ _ _ _ _ _ _ _ _ _ _ _ _ _ _ _ _ _ _ _ _ _ _ _ _ _ _ _ _ _ _ _ _ _ _ _ _ _ _ _ _ _ _ _ _ _ _ _ _ _ _ _ _ _ _ _ _ _ _ _ _ _ _ _ _ _ _ _ _ _ _ _ _ _ _ _ _ _ _ _ _ _ _ _ ⟨L', k + 1, hLn, S11, O9.out.later (bthen hb10 hb11)⟩


end Go.Proofs.Ytmfoenhbldacfaa
