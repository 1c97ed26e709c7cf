import Derived.Test.YtmfoenhbldacfaaQbp
/- HeapAll: the place of a number -/
namespace Go.Proofs.Ytmfoenhbldacfaa
open Go.RowKit Go.Shelf
set_option linter.unusedVariables false
set_option linter.unusedSimpArgs false

set_option maxRecDepth 1000000 in
set_option maxHeartbeats 2000000 in
theorem loop2_any {w : World} {B : Nat} {vi : Value} {ob l : Nat} {L : List Rec} {K S D X : Int} (hvi : Hid (Ro 28 B w vi (idC L))) (hl : Hid (L.length = l)) (hl80 : l ≤ 80) (hO : Hid (Ob w ob K S D X)) {u0 u1 u2 u3 u5 u6 u9 u10 u11 u12 u13 u14 u15 u16 u17 u18 u19 u20 u21 u22 u23 u24 u25 u26 u27 u28 u29 u30 u31 u32 u33 u34 u35 u36 u37 u38 u39 u40 u41 u42 u43 u44 u45 u46 u47 u48 u49 u50 u51 u52 u53 u54 u55 u56 u57 u58 u59 u60 u61 u62 u63 u64 u65 u66 u67 u68 u69 u70 u71 u72 u73 u74 u75 u76 u77 u78 u79 u80 u81 u82 u83 u84 u85 u86 u87 u88 u89 u90 u91 u92 u93 u94 u95 u96 u97 u98 u99 u100 u101 u102 u103 u104 u105 u106 u107 u108 u109 u110 u111 u112 u113 u114 u115 u116 u117 u118 u119 u120 u121 u122 u123 u124 u125 u126 u127 u128 u129 u130 u131 u132 u133 u134 u135 u136 u137 u138 u139 u140 u141 u142 u143 u144 u145 u146 u147 u148 u149 u150 u151 u152 u153 u154 u155 u156 u157 u158 u159 u160 u161 u162 u163 u164 u165 u166 u167 u168 u169 u170 u171 u172 u173 u174 u175 u176 u177 u178 u179 u180 u181 u182 u183 u184 u185 u186 u187 u188 u189 u190 u191 u192 u193 u194 u195 u196 u197 u198 u199 u200 u201 u202 u203 u204 u205 u206 u207 u208 u209 : Value} {K' : Act → World → Prop} {Q : Exit → Act → World → Prop}
    (hK : Hid (∀ (v8 x33 x34 x35 x36 x37 x38 x39 x40 x41 x42 x43 x44 x45 x46 x47 : Value) (w' : World), (∃ kk : Nat, v8 = .int .i64 (kk : Int) ∧ kk ≤ l ∧ Hid (∀ i, i < kk → nth (ks L) i < D) ∧ Hid (kk < l → D ≤ nth (ks L) kk) ∧ Below w.heap.size w w') → K' ⟨#[u0, u1, u2, u3, vi, u5, u6, .pointer (some ⟨ob, 0, none⟩), v8, u9, u10, u11, u12, u13, u14, u15, u16, u17, u18, u19, u20, u21, u22, u23, u24, u25, u26, u27, u28, u29, u30, u31, u32, x33, x34, x35, x36, x37, x38, x39, x40, x41, x42, x43, x44, x45, x46, x47, u48, u49, u50, u51, u52, u53, u54, u55, u56, u57, u58, u59, u60, u61, u62, u63, u64, u65, u66, u67, u68, u69, u70, u71, u72, u73, u74, u75, u76, u77, u78, u79, u80, u81, u82, u83, u84, u85, u86, u87, u88, u89, u90, u91, u92, u93, u94, u95, u96, u97, u98, u99, u100, u101, u102, u103, u104, u105, u106, u107, u108, u109, u110, u111, u112, u113, u114, u115, u116, u117, u118, u119, u120, u121, u122, u123, u124, u125, u126, u127, u128, u129, u130, u131, u132, u133, u134, u135, u136, u137, u138, u139, u140, u141, u142, u143, u144, u145, u146, u147, u148, u149, u150, u151, u152, u153, u154, u155, u156, u157, u158, u159, u160, u161, u162, u163, u164, u165, u166, u167, u168, u169, u170, u171, u172, u173, u174, u175, u176, u177, u178, u179, u180, u181, u182, u183, u184, u185, u186, u187, u188, u189, u190, u191, u192, u193, u194, u195, u196, u197, u198, u199, u200, u201, u202, u203, u204, u205, u206, u207, u208, u209], []⟩ w')) :
    Code.wp Try.prog (blkA 2) (Exit.then K' Q) ⟨#[u0, u1, u2, u3, vi, u5, u6, .pointer (some ⟨ob, 0, none⟩), .int .i64 0, u9, u10, u11, u12, u13, u14, u15, u16, u17, u18, u19, u20, u21, u22, u23, u24, u25, u26, u27, u28, u29, u30, u31, u32, u33, u34, u35, u36, u37, u38, u39, u40, u41, u42, u43, u44, u45, u46, u47, u48, u49, u50, u51, u52, u53, u54, u55, u56, u57, u58, u59, u60, u61, u62, u63, u64, u65, u66, u67, u68, u69, u70, u71, u72, u73, u74, u75, u76, u77, u78, u79, u80, u81, u82, u83, u84, u85, u86, u87, u88, u89, u90, u91, u92, u93, u94, u95, u96, u97, u98, u99, u100, u101, u102, u103, u104, u105, u106, u107, u108, u109, u110, u111, u112, u113, u114, u115, u116, u117, u118, u119, u120, u121, u122, u123, u124, u125, u126, u127, u128, u129, u130, u131, u132, u133, u134, u135, u136, u137, u138, u139, u140, u141, u142, u143, u144, u145, u146, u147, u148, u149, u150, u151, u152, u153, u154, u155, u156, u157, u158, u159, u160, u161, u162, u163, u164, u165, u166, u167, u168, u169, u170, u171, u172, u173, u174, u175, u176, u177, u178, u179, u180, u181, u182, u183, u184, u185, u186, u187, u188, u189, u190, u191, u192, u193, u194, u195, u196, u197, u198, u199, u200, u201, u202, u203, u204, u205, u206, u207, u208, u209], []⟩ w := by
  conv => arg 2; whnf
  have HO : Hid (∀ w', Below w.heap.size w w' → w'.cell? ⟨ob, 2, none⟩ = some (.int .u64 D)) := hid (fun w' k => (hO.out.later k).c2)
  have HV : Hid (∃ ai ci, vi = .slice ai l ci) := hid (by
    obtain ⟨ai, ci, h, -⟩ := hvi.out.sl
    rw [idC_len, hl.out] at h
    exact ⟨ai, ci, h⟩)
  have HIc : Hid (∀ w', Below w.heap.size w w' → ∀ i, i < l → ∃ g c, vi = .slice (some ⟨g, 0, none⟩) l c ∧ w'.cell? ⟨g, i, none⟩ = some (.int .u64 (nth (ks L) i))) := hid (fun w' k i h => by
    obtain ⟨g, c, e, _, _, _, _, hc⟩ := hvi.out.at (idC_at (by rw [hl.out]; exact h))
    rw [idC_len, hl.out] at e
    exact ⟨g, c, e, cell_later k (hc _ _ (idC_at (by rw [hl.out]; exact h)))⟩)
  clear hvi hO
  go_wp2_with fail
  go_loopw [8] (fun v8 wr => ∃ kk : Nat, kk ≤ l ∧ v8 = .int .i64 (kk : Int) ∧ Hid (∀ i, i < kk → nth (ks L) i < D) ∧ Below w.heap.size w wr) (fun v8 _ => l - (intOf v8).toNat)
  case atStart => exact ⟨0, Nat.zero_le _, rfl, hid (fun i h => absurd h (Nat.not_lt_zero _)), Below.refl _ _⟩
  case round =>
    obtain ⟨kk, hkk, rfl, hlow, hB⟩ := hrel
    have e2 := HO.out _ hB
    by_cases hkl : kk < l
    · obtain ⟨g, c, e, ec⟩ := HIc.out _ hB kk hkl
      obtain ⟨x, hxx⟩ : ∃ x, nth (ks L) kk = x := ⟨_, rfl⟩
      rw [hxx] at ec
      subst e
      have g3 : decide ((kk : Int) < (l : Int)) = true := by simpa using hkl
      have hkli : (kk : Int) < (l : Int) := by omega
      by_cases hlt : x < D
      · have g4 : decide (x < D) = true := by simpa using hlt
        have hlow2 : Hid (∀ i, i < kk + 1 → nth (ks L) i < D) := hid (fun i hi => by
          rcases (by omega : i < kk ∨ i = kk) with h | rfl
          · exact hlow.out i h
          · rw [hxx]; exact hlt)
        clear hxx hlow HIc HV
        go_upto_region 13 with fail
        go_region
        all_goals
          have hC := hB.drew
          go_wp2
          go_roundw
          case rel => exact ⟨kk + 1, by omega, by go_num, hlow2, hC⟩
          case measure => simp [intOf]; omega
      · have g4 : decide (x < D) = false := by simpa using hlt
        have hhi : Hid (kk < l → D ≤ nth (ks L) kk) := hid (fun _ => by rw [hxx]; omega)
        clear hxx HIc HV
        go_upto_region 13 with fail
        go_region
        all_goals
          have hC := hB.drew
          go_wp2
          exact hK.out _ _ _ _ _ _ _ _ _ _ _ _ _ _ _ _ _ ⟨kk, rfl, hkk, hlow, hhi, hC⟩
    · have g3 : decide ((kk : Int) < (l : Int)) = false := by simpa using hkl
      have hhi : Hid (kk < l → D ≤ nth (ks L) kk) := hid (fun h => absurd h hkl)
      obtain ⟨a4, c4, hv⟩ := HV.out
      subst hv
      clear HIc HV
      go_upto_region 13 with fail
      go_region
      all_goals
        have hC := hB.drew
        go_wp2
        exact hK.out _ _ _ _ _ _ _ _ _ _ _ _ _ _ _ _ _ ⟨kk, rfl, hkk, hlow, hhi, hC⟩


end Go.Proofs.Ytmfoenhbldacfaa
/- HeapAll: the bytes of a record -/
namespace Go.Proofs.Ytmfoenhbldacfaa
open Go.RowKit Go.Shelf
set_option linter.unusedVariables false
set_option linter.unusedSimpArgs false

set_option maxRecDepth 1000000 in
set_option maxHeartbeats 2000000 in
theorem reg16_any {w : World} {ob : Nat} {K S D X : Int} (hO : Hid (Ob w ob K S D X)) {u0 u1 u2 u3 u4 u5 u6 u8 u9 u10 u11 u12 u13 u14 u15 u16 u17 u18 u19 u20 u21 u22 u23 u24 u25 u26 u27 u28 u29 u30 u31 u32 u33 u34 u35 u36 u37 u38 u39 u40 u41 u42 u43 u44 u45 u46 u47 u48 u49 u50 u51 u52 u53 u54 u55 u56 u57 u58 u59 u60 u61 u62 u63 u64 u65 u66 u67 u68 u69 u70 u71 u72 u73 u74 u75 u76 u77 u78 u79 u80 u81 u82 u83 u84 u85 u86 u87 u88 u89 u90 u91 u92 u93 u94 u95 u96 u97 u98 u99 u100 u101 u102 u103 u104 u105 u106 u107 u108 u109 u110 u111 u112 u113 u114 u115 u116 u117 u118 u119 u120 u121 u122 u123 u124 u125 u126 u127 u128 u129 u130 u131 u132 u133 u134 u135 u136 u137 u138 u139 u140 u141 u142 u143 u144 u145 u146 u147 u148 u149 u150 u151 u152 u153 u154 u155 u156 u157 u158 u159 u160 u161 u162 u163 u164 u165 u166 u167 u168 u169 u170 u171 u172 u173 u174 u175 u176 u177 u178 u179 u180 u181 u182 u183 u184 u185 u186 u187 u188 u189 u190 u191 u192 u193 u194 u195 u196 u197 u198 u199 u200 u201 u202 u203 u204 u205 u206 u207 u208 u209 : Value} {K' : Act → World → Prop} {Q : Exit → Act → World → Prop}
    (hK : Hid (∀ (v10 x61 x62 x63 x64 x65 : Value) (w' : World), (∃ m x : Nat, v10 = .slice (some ⟨x, 0, none⟩) m m ∧ m ≤ 300 ∧ Bx8 w w' x (List.replicate m 0) ∧ Below w.heap.size w w') → K' ⟨#[u0, u1, u2, u3, u4, u5, u6, .pointer (some ⟨ob, 0, none⟩), u8, u9, v10, u11, u12, u13, u14, u15, u16, u17, u18, u19, u20, u21, u22, u23, u24, u25, u26, u27, u28, u29, u30, u31, u32, u33, u34, u35, u36, u37, u38, u39, u40, u41, u42, u43, u44, u45, u46, u47, u48, u49, u50, u51, u52, u53, u54, u55, u56, u57, u58, u59, u60, x61, x62, x63, x64, x65, u66, u67, u68, u69, u70, u71, u72, u73, u74, u75, u76, u77, u78, u79, u80, u81, u82, u83, u84, u85, u86, u87, u88, u89, u90, u91, u92, u93, u94, u95, u96, u97, u98, u99, u100, u101, u102, u103, u104, u105, u106, u107, u108, u109, u110, u111, u112, u113, u114, u115, u116, u117, u118, u119, u120, u121, u122, u123, u124, u125, u126, u127, u128, u129, u130, u131, u132, u133, u134, u135, u136, u137, u138, u139, u140, u141, u142, u143, u144, u145, u146, u147, u148, u149, u150, u151, u152, u153, u154, u155, u156, u157, u158, u159, u160, u161, u162, u163, u164, u165, u166, u167, u168, u169, u170, u171, u172, u173, u174, u175, u176, u177, u178, u179, u180, u181, u182, u183, u184, u185, u186, u187, u188, u189, u190, u191, u192, u193, u194, u195, u196, u197, u198, u199, u200, u201, u202, u203, u204, u205, u206, u207, u208, u209], []⟩ w')) :
    Code.wp Try.prog (regA 16) (Exit.then K' Q) ⟨#[u0, u1, u2, u3, u4, u5, u6, .pointer (some ⟨ob, 0, none⟩), u8, u9, u10, u11, u12, u13, u14, u15, u16, u17, u18, u19, u20, u21, u22, u23, u24, u25, u26, u27, u28, u29, u30, u31, u32, u33, u34, u35, u36, u37, u38, u39, u40, u41, u42, u43, u44, u45, u46, u47, u48, u49, u50, u51, u52, u53, u54, u55, u56, u57, u58, u59, u60, u61, u62, u63, u64, u65, u66, u67, u68, u69, u70, u71, u72, u73, u74, u75, u76, u77, u78, u79, u80, u81, u82, u83, u84, u85, u86, u87, u88, u89, u90, u91, u92, u93, u94, u95, u96, u97, u98, u99, u100, u101, u102, u103, u104, u105, u106, u107, u108, u109, u110, u111, u112, u113, u114, u115, u116, u117, u118, u119, u120, u121, u122, u123, u124, u125, u126, u127, u128, u129, u130, u131, u132, u133, u134, u135, u136, u137, u138, u139, u140, u141, u142, u143, u144, u145, u146, u147, u148, u149, u150, u151, u152, u153, u154, u155, u156, u157, u158, u159, u160, u161, u162, u163, u164, u165, u166, u167, u168, u169, u170, u171, u172, u173, u174, u175, u176, u177, u178, u179, u180, u181, u182, u183, u184, u185, u186, u187, u188, u189, u190, u191, u192, u193, u194, u195, u196, u197, u198, u199, u200, u201, u202, u203, u204, u205, u206, u207, u208, u209], []⟩ w := by
  conv => arg 2; whnf
  have oc1 := hO.out.c1
  have hmk : Hid (∀ k, k ≤ 300 → _) := hid (fun k (h : k ≤ 300) => make_any k (by omega) w)
  have hbx : Hid (∀ k, _) := hid (fun k => Bx8.new (W := w) (w := w) (Below.refl _ _) k)
  have hbl : Hid (∀ k, _) := hid (fun k => (Below.refl w.heap.size w).alloc (Nat.le_refl _) (.cells (zc k) 5))
  clear hO
  by_cases z1 : S ≤ 0
  · have HM := hmk.out 0 (by omega)
    rw [show ((0 : Nat) : Int) = 0 from rfl] at HM
    clear hmk
    rcases (by omega : S < 0 ∨ S = 0) with z0 | z0
    · have z4 : ¬ (0 : Int) ≤ S := by omega
      go_wp2
      exact hK.out _ _ _ _ _ _ _ ⟨0, _, rfl, by omega, hbx.out 0, hbl.out 0⟩
    · subst z0
      go_wp2
      exact hK.out _ _ _ _ _ _ _ ⟨0, _, rfl, by omega, hbx.out 0, hbl.out 0⟩
  · by_cases z3 : S ≤ 300
    · obtain ⟨m, rfl⟩ : ∃ m : Nat, S = (m : Int) := ⟨S.toNat, by omega⟩
      have HM := hmk.out m (by omega)
      have z2 : (0 : Int) ≤ (m : Int) := by omega
      clear hmk
      go_wp2
      exact hK.out _ _ _ _ _ _ _ ⟨m, _, rfl, by omega, hbx.out m, hbl.out m⟩
    · have HM := hmk.out 300 (by omega)
      rw [show ((300 : Nat) : Int) = 300 from rfl] at HM
      have z2 : (0 : Int) ≤ S := by omega
      clear hmk
      go_wp2
      exact hK.out _ _ _ _ _ _ _ ⟨300, _, rfl, by omega, hbx.out 300, hbl.out 300⟩

set_option maxRecDepth 1000000 in
set_option maxHeartbeats 2000000 in
theorem loop3_any {W w : World} {ob xb m : Nat} {K S D X : Int} {bs0 : List Int} (hO : Hid (Ob w ob K S D X)) (hx : 0 ≤ X ∧ X ≤ 255) (hm : m ≤ 300) (bx0 : Bx8 W w xb bs0) (hlz : Hid (bs0.length = m)) (hbz : Hid (By bs0)) {u0 u1 u2 u3 u4 u5 u6 u8 u9 u12 u13 u14 u15 u16 u17 u18 u19 u20 u21 u22 u23 u24 u25 u26 u27 u28 u29 u30 u31 u32 u33 u34 u35 u36 u37 u38 u39 u40 u41 u42 u43 u44 u45 u46 u47 u48 u49 u50 u51 u52 u53 u54 u55 u56 u57 u58 u59 u60 u61 u62 u63 u64 u65 u66 u67 u68 u69 u70 u71 u72 u73 u74 u75 u76 u77 u78 u79 u80 u81 u82 u83 u84 u85 u86 u87 u88 u89 u90 u91 u92 u93 u94 u95 u96 u97 u98 u99 u100 u101 u102 u103 u104 u105 u106 u107 u108 u109 u110 u111 u112 u113 u114 u115 u116 u117 u118 u119 u120 u121 u122 u123 u124 u125 u126 u127 u128 u129 u130 u131 u132 u133 u134 u135 u136 u137 u138 u139 u140 u141 u142 u143 u144 u145 u146 u147 u148 u149 u150 u151 u152 u153 u154 u155 u156 u157 u158 u159 u160 u161 u162 u163 u164 u165 u166 u167 u168 u169 u170 u171 u172 u173 u174 u175 u176 u177 u178 u179 u180 u181 u182 u183 u184 u185 u186 u187 u188 u189 u190 u191 u192 u193 u194 u195 u196 u197 u198 u199 u200 u201 u202 u203 u204 u205 u206 u207 u208 u209 : Value} {K' : Act → World → Prop} {Q : Exit → Act → World → Prop}
    (hK : Hid (∀ (x11 x66 x67 x68 x69 x70 x71 x72 x73 x74 x75 x76 x77 x78 x79 : Value) (w' : World), (∃ bs, Hid (bs.length = m) ∧ Hid (By bs) ∧ Bx8 W w' xb bs ∧ Rest xb w w') → K' ⟨#[u0, u1, u2, u3, u4, u5, u6, .pointer (some ⟨ob, 0, none⟩), u8, u9, .slice (some ⟨xb, 0, none⟩) m m, x11, u12, u13, u14, u15, u16, u17, u18, u19, u20, u21, u22, u23, u24, u25, u26, u27, u28, u29, u30, u31, u32, u33, u34, u35, u36, u37, u38, u39, u40, u41, u42, u43, u44, u45, u46, u47, u48, u49, u50, u51, u52, u53, u54, u55, u56, u57, u58, u59, u60, u61, u62, u63, u64, u65, x66, x67, x68, x69, x70, x71, x72, x73, x74, x75, x76, x77, x78, x79, u80, u81, u82, u83, u84, u85, u86, u87, u88, u89, u90, u91, u92, u93, u94, u95, u96, u97, u98, u99, u100, u101, u102, u103, u104, u105, u106, u107, u108, u109, u110, u111, u112, u113, u114, u115, u116, u117, u118, u119, u120, u121, u122, u123, u124, u125, u126, u127, u128, u129, u130, u131, u132, u133, u134, u135, u136, u137, u138, u139, u140, u141, u142, u143, u144, u145, u146, u147, u148, u149, u150, u151, u152, u153, u154, u155, u156, u157, u158, u159, u160, u161, u162, u163, u164, u165, u166, u167, u168, u169, u170, u171, u172, u173, u174, u175, u176, u177, u178, u179, u180, u181, u182, u183, u184, u185, u186, u187, u188, u189, u190, u191, u192, u193, u194, u195, u196, u197, u198, u199, u200, u201, u202, u203, u204, u205, u206, u207, u208, u209], []⟩ w')) :
    Code.wp Try.prog (blkA 4) (Exit.then K' Q) ⟨#[u0, u1, u2, u3, u4, u5, u6, .pointer (some ⟨ob, 0, none⟩), u8, u9, .slice (some ⟨xb, 0, none⟩) m m, .int .i64 0, u12, u13, u14, u15, u16, u17, u18, u19, u20, u21, u22, u23, u24, u25, u26, u27, u28, u29, u30, u31, u32, u33, u34, u35, u36, u37, u38, u39, u40, u41, u42, u43, u44, u45, u46, u47, u48, u49, u50, u51, u52, u53, u54, u55, u56, u57, u58, u59, u60, u61, u62, u63, u64, u65, u66, u67, u68, u69, u70, u71, u72, u73, u74, u75, u76, u77, u78, u79, u80, u81, u82, u83, u84, u85, u86, u87, u88, u89, u90, u91, u92, u93, u94, u95, u96, u97, u98, u99, u100, u101, u102, u103, u104, u105, u106, u107, u108, u109, u110, u111, u112, u113, u114, u115, u116, u117, u118, u119, u120, u121, u122, u123, u124, u125, u126, u127, u128, u129, u130, u131, u132, u133, u134, u135, u136, u137, u138, u139, u140, u141, u142, u143, u144, u145, u146, u147, u148, u149, u150, u151, u152, u153, u154, u155, u156, u157, u158, u159, u160, u161, u162, u163, u164, u165, u166, u167, u168, u169, u170, u171, u172, u173, u174, u175, u176, u177, u178, u179, u180, u181, u182, u183, u184, u185, u186, u187, u188, u189, u190, u191, u192, u193, u194, u195, u196, u197, u198, u199, u200, u201, u202, u203, u204, u205, u206, u207, u208, u209], []⟩ w := by
  conv => arg 2; whnf
  have oc3 := hO.out.c3
  have hne : ob ≠ xb := fun e => by
    have h1 := hO.out.row
    rw [e, bx0.row] at h1
    exact absurd (ty_eqK h1) (by decide)
  clear hO
  go_wp2_with fail
  go_loopw [11] (fun i wr => ∃ (kb : Nat) (bs : List Int), kb ≤ m ∧ i = .int .i64 (kb : Int) ∧ Hid (bs.length = m) ∧ Hid (By bs) ∧ Bx8 W wr xb bs ∧ Rest xb w wr) (fun i wr => m - (intOf i).toNat)
  case atStart => exact ⟨0, bs0, Nat.zero_le _, rfl, hlz, hbz, bx0, Rest.refl _ _⟩
  case round =>
    clear bx0 hlz hbz
    obtain ⟨kb, bs, hkb, rfl, hbl, hby, bx, hr⟩ := hrel
    by_cases hkl : kb < m
    · have ox := hr.cell oc3 (by show ob ≠ xb; exact hne)
      have cc := bx.cell (i := kb) (by rw [hbl.out]; exact hkl)
      have ff := bx.frozen kb
      have hset : Hid (∀ v, _) := hid (fun v => bx.set (i := kb) (v := v))
      have hby2 : Hid (∀ v, 0 ≤ v → v ≤ 255 → By (bs.set kb v)) := hid (fun v h0 h1 => hby.out.set kb h0 h1)
      have hkb3 : kb ≤ 300 := by omega
      clear bx
      go_wp2
      go_roundw
      case rel => exact ⟨kb + 1, _, hkl, by go_num, hid (by rw [List.length_set]; exact hbl.out), hid (hby2.out _ (by omega) (by omega)), hset.out _, hr.trans (Rest.set xb kb wr _)⟩
      case measure => simp [intOf]; omega
    · obtain rfl : kb = m := by omega
      go_wp2
      exact hK.out _ _ _ _ _ _ _ _ _ _ _ _ _ _ _ _ ⟨bs, hbl, hby, bx, hr⟩


end Go.Proofs.Ytmfoenhbldacfaa
