import Derived.Test.YtmfoenhbldacfaaQbs
/- HeapAll: numbers put together -/
namespace Go.Proofs.Ytmfoenhbldacfaa
open Go.RowKit Go.Shelf
set_option linter.unusedVariables false
set_option linter.unusedSimpArgs false

set_option maxRecDepth 1000000 in
set_option maxHeartbeats 2000000 in
theorem r33_any {w : World} {B : Nat} {vi : Value} {ob kk : Nat} {L A C : List Rec} {D : Int} (hvi : Ro 28 B w vi (idC (A ++ C))) (hlen : A.length = kk) (hl : (A ++ C).length ≤ 100) (hc : Hid (∀ w', Below w.heap.size w w' → w'.cell? ⟨ob, 2, none⟩ = some (.int .u64 D))) {u0 u1 u2 u3 u5 u6 u9 u10 u11 u12 u13 u14 u15 u16 u17 u18 u19 u20 u21 u22 u23 u24 u25 u26 u27 u28 u29 u30 u31 u32 u33 u34 u35 u36 u37 u38 u39 u40 u41 u42 u43 u44 u45 u46 u47 u48 u49 u50 u51 u52 u53 u54 u55 u56 u57 u58 u59 u60 u61 u62 u63 u64 u65 u66 u67 u68 u69 u70 u71 u72 u73 u74 u75 u76 u77 u78 u79 u80 u81 u82 u83 u84 u85 u86 u87 u88 u89 u90 u91 u92 u93 u94 u95 u96 u97 u98 u99 u100 u101 u102 u103 u104 u105 u106 u107 u108 u109 u110 u111 u112 u113 u114 u115 u116 u117 u118 u119 u120 u121 u122 u123 u124 u125 u126 u127 u128 u129 u130 u131 u132 u133 u134 u135 u136 u137 u138 u139 u140 u141 u142 u143 u144 u145 u146 u147 u148 u149 u150 u151 u152 u153 u154 u155 u156 u157 u158 u159 u160 u161 u162 u163 u164 u165 u166 u167 u168 u169 u170 u171 u172 u173 u174 u175 u176 u177 u178 u179 u180 u181 u182 u183 u184 u185 u186 u187 u188 u189 u190 u191 u192 u193 u194 u195 u196 u197 u198 u199 u200 u201 u202 u203 u204 u205 u206 u207 u208 u209 : Value} {K' : Act → World → Prop} {Q : Exit → Act → World → Prop}
    (hK : Hid (∀ (v4 x125 x126 x127 x128 x129 x130 x131 x132 x133 x134 x135 x136 x137 : Value) (w' : World), Below w.heap.size w w' → Ro 28 w.heap.size w' v4 ((idC A ++ [.int .u64 D]) ++ idC C) → K' ⟨#[u0, u1, u2, u3, v4, u5, u6, .pointer (some ⟨ob, 0, none⟩), .int .i64 (kk : Int), u9, u10, u11, u12, u13, u14, u15, u16, u17, u18, u19, u20, u21, u22, u23, u24, u25, u26, u27, u28, u29, u30, u31, u32, u33, u34, u35, u36, u37, u38, u39, u40, u41, u42, u43, u44, u45, u46, u47, u48, u49, u50, u51, u52, u53, u54, u55, u56, u57, u58, u59, u60, u61, u62, u63, u64, u65, u66, u67, u68, u69, u70, u71, u72, u73, u74, u75, u76, u77, u78, u79, u80, u81, u82, u83, u84, u85, u86, u87, u88, u89, u90, u91, u92, u93, u94, u95, u96, u97, u98, u99, u100, u101, u102, u103, u104, u105, u106, u107, u108, u109, u110, u111, u112, u113, u114, u115, u116, u117, u118, u119, u120, u121, u122, u123, u124, x125, x126, x127, x128, x129, x130, x131, x132, x133, x134, x135, x136, x137, u138, u139, u140, u141, u142, u143, u144, u145, u146, u147, u148, u149, u150, u151, u152, u153, u154, u155, u156, u157, u158, u159, u160, u161, u162, u163, u164, u165, u166, u167, u168, u169, u170, u171, u172, u173, u174, u175, u176, u177, u178, u179, u180, u181, u182, u183, u184, u185, u186, u187, u188, u189, u190, u191, u192, u193, u194, u195, u196, u197, u198, u199, u200, u201, u202, u203, u204, u205, u206, u207, u208, u209], []⟩ w')) :
    Code.wp Try.prog (regA 33) (Exit.then K' Q) ⟨#[u0, u1, u2, u3, vi, u5, u6, .pointer (some ⟨ob, 0, none⟩), .int .i64 (kk : Int), u9, u10, u11, u12, u13, u14, u15, u16, u17, u18, u19, u20, u21, u22, u23, u24, u25, u26, u27, u28, u29, u30, u31, u32, u33, u34, u35, u36, u37, u38, u39, u40, u41, u42, u43, u44, u45, u46, u47, u48, u49, u50, u51, u52, u53, u54, u55, u56, u57, u58, u59, u60, u61, u62, u63, u64, u65, u66, u67, u68, u69, u70, u71, u72, u73, u74, u75, u76, u77, u78, u79, u80, u81, u82, u83, u84, u85, u86, u87, u88, u89, u90, u91, u92, u93, u94, u95, u96, u97, u98, u99, u100, u101, u102, u103, u104, u105, u106, u107, u108, u109, u110, u111, u112, u113, u114, u115, u116, u117, u118, u119, u120, u121, u122, u123, u124, u125, u126, u127, u128, u129, u130, u131, u132, u133, u134, u135, u136, u137, u138, u139, u140, u141, u142, u143, u144, u145, u146, u147, u148, u149, u150, u151, u152, u153, u154, u155, u156, u157, u158, u159, u160, u161, u162, u163, u164, u165, u166, u167, u168, u169, u170, u171, u172, u173, u174, u175, u176, u177, u178, u179, u180, u181, u182, u183, u184, u185, u186, u187, u188, u189, u190, u191, u192, u193, u194, u195, u196, u197, u198, u199, u200, u201, u202, u203, u204, u205, u206, u207, u208, u209], []⟩ w := by
  conv => arg 2; whnf
  obtain ⟨sA, hsA, SA⟩ := hvi.lo elU (k := kk) (x := (kk : Int)) (by rw [idC_len, List.length_append]; omega) rfl
  obtain ⟨sC, hsC, SC⟩ := hvi.hi elU (k := kk) (x := (kk : Int)) (by rw [idC_len, List.length_append]; omega) rfl
  rw [idC_take hlen] at SA
  rw [idC_drop hlen] at SC
  have hlA : (idC A).length ≤ 100 := by rw [idC_len]; rw [List.length_append] at hl; omega
  have hlC : (idC C).length ≤ 100 := by rw [idC_len]; rw [List.length_append] at hl; omega
  have oE : Ro 28 w.heap.size (w.alloc (.cells #[] 28)) (.slice (some ⟨w.heap.size, 0, none⟩) 0 0) [] := Ro.made w (Nat.le_refl _)
  have oEO : ∀ o, Ro 28 w.heap.size ((w.alloc (.cells #[] 28)).alloc o) (.slice (some ⟨w.heap.size, 0, none⟩) 0 0) [] := fun o => oE.later ((Below.refl _ _).alloc (Nat.le_refl _) _)
  have oOE : ∀ o, Ro 28 w.heap.size ((w.alloc o).alloc (.cells #[] 28)) (.slice (some ⟨w.heap.size + 1, 0, none⟩) 0 0) [] := fun o => by
    have := Ro.made (E := 28) (B := w.heap.size) (w.alloc o) (by simp)
    simpa using this
  have sOE : Src ((w.alloc (.cells #[.int .u64 D] 28)).alloc (.cells #[] 28)) (.slice (some ⟨w.heap.size, 0, none⟩) 1 1) [.int .u64 D] := (Src.one w 28 (.int .u64 D)).later ((Below.refl _ _).alloc (Nat.le_refl _) _)
  have sEO : Src ((w.alloc (.cells #[] 28)).alloc (.cells #[.int .u64 D] 28)) (.slice (some ⟨w.heap.size + 1, 0, none⟩) 1 1) [.int .u64 D] := by
    have := Src.one (w.alloc (.cells #[] 28)) 28 (.int .u64 D)
    simpa using this
  have hx1 : ∀ u ∈ ([.int .u64 D] : List Value), u.oneCell' = true := by intro u hu; cases List.mem_singleton.1 hu; rfl
  have iA := idC_one A
  have iC := idC_one C
  have bD : Below w.heap.size w w := Below.refl _ _
  clear hvi hl
  go_region_held3 (fun w' => w'.cell? ⟨ob, 2, none⟩ = some (.int .u64 D)) (exact hc.out _ (by repeat (first | assumption | refine bal ?_ _ | refine Below.drew ?_)))
    (first
      | (first
          | refine step_ro elU rfl (.tmp 125) (.tmp 128) rfl (by simp [Act.eval, Act.put]) (by simp [Act.eval, Act.put]) oE (SA.later (by repeat (first | assumption | refine bal ?_ _ | refine Below.drew ?_))) iA (by simp; omega) (by simp; try omega) ?_
          | refine step_ro elU rfl (.tmp 125) (.tmp 128) rfl (by simp [Act.eval, Act.put]) (by simp [Act.eval, Act.put]) (oOE _) (SA.later (by repeat (first | assumption | refine bal ?_ _ | refine Below.drew ?_))) iA (by simp; omega) (by simp; try omega) ?_
          | refine step_ro elU rfl (.tmp 125) (.tmp 128) rfl (by simp [Act.eval, Act.put]) (by simp [Act.eval, Act.put]) (oEO _) (SA.later (by repeat (first | assumption | refine bal ?_ _ | refine Below.drew ?_))) iA (by simp; omega) (by simp; try omega) ?_
         intro v1 z1 o1 b1 q1
         have B1 : Below w.heap.size w z1 := Below.trans (by repeat (first | assumption | refine bal ?_ _ | refine Below.drew ?_)) b1)
      | (first
          | refine step_ro elU rfl (.tmp 129) (.tmp 132) rfl (by simp [Act.eval, Act.put]) (by simp [Act.eval, Act.put]) (o1.later ((Below.refl _ _).alloc (Nat.le_refl _) _)) (Src.one z1 28 (.int .u64 D)) hx1 (by simp; omega) (Nat.le_trans B1.size (by simp)) ?_
          | refine step_ro elU rfl (.tmp 129) (.tmp 132) rfl (by simp [Act.eval, Act.put]) (by simp [Act.eval, Act.put]) o1 (sOE.blk (q1 _ (by simp; try omega) (by simp [Value.ownBlock]))) hx1 (by simp; omega) B1.size ?_
          | refine step_ro elU rfl (.tmp 129) (.tmp 132) rfl (by simp [Act.eval, Act.put]) (by simp [Act.eval, Act.put]) o1 (sEO.blk (q1 _ (by simp; try omega) (by simp [Value.ownBlock]))) hx1 (by simp; omega) B1.size ?_
         intro v2 z2 o2 b2 q2
         have B2 : Below w.heap.size w z2 := Below.trans (by repeat (first | assumption | refine bal ?_ _ | refine Below.drew ?_)) b2)
      | (refine step_ro elU rfl (.tmp 133) (.tmp 136) rfl (by simp [Act.eval, Act.put]) (by simp [Act.eval, Act.put]) o2 (SC.later B2) iC (by simp; omega) B2.size ?_
         intro v3 z3 o3 b3 q3
         have B3 : Below w.heap.size w z3 := B2.trans b3))
  all_goals
    go_wp2
    exact hK.out _ _ _ _ _ _ _ _ _ _ _ _ _ _ _ B3 o3


end Go.Proofs.Ytmfoenhbldacfaa
/- HeapAll: texts put together -/
namespace Go.Proofs.Ytmfoenhbldacfaa
open Go.RowKit Go.Shelf
set_option linter.unusedVariables false
set_option linter.unusedSimpArgs false

set_option maxRecDepth 1000000 in
set_option maxHeartbeats 2000000 in
theorem r34_any {w : World} {B : Nat} {vi : Value} {ob kk : Nat} {L A C : List Rec} {D : Int} {xb m : Nat} {bs : List Int} (hvi : Ro 9 B w vi (rcC (A ++ C))) (hlen : A.length = kk) (hl : (A ++ C).length ≤ 100) (hc : Hid (∀ w', Below w.heap.size w w' → (convert 31 9 (.slice (some ⟨xb, 0, none⟩) m m)).run Try.prog w' = .ok (.string (strOfNums bs)) w')) {u0 u1 u2 u3 u4 u6 u9 u11 u12 u13 u14 u15 u16 u17 u18 u19 u20 u21 u22 u23 u24 u25 u26 u27 u28 u29 u30 u31 u32 u33 u34 u35 u36 u37 u38 u39 u40 u41 u42 u43 u44 u45 u46 u47 u48 u49 u50 u51 u52 u53 u54 u55 u56 u57 u58 u59 u60 u61 u62 u63 u64 u65 u66 u67 u68 u69 u70 u71 u72 u73 u74 u75 u76 u77 u78 u79 u80 u81 u82 u83 u84 u85 u86 u87 u88 u89 u90 u91 u92 u93 u94 u95 u96 u97 u98 u99 u100 u101 u102 u103 u104 u105 u106 u107 u108 u109 u110 u111 u112 u113 u114 u115 u116 u117 u118 u119 u120 u121 u122 u123 u124 u125 u126 u127 u128 u129 u130 u131 u132 u133 u134 u135 u136 u137 u138 u139 u140 u141 u142 u143 u144 u145 u146 u147 u148 u149 u150 u151 u152 u153 u154 u155 u156 u157 u158 u159 u160 u161 u162 u163 u164 u165 u166 u167 u168 u169 u170 u171 u172 u173 u174 u175 u176 u177 u178 u179 u180 u181 u182 u183 u184 u185 u186 u187 u188 u189 u190 u191 u192 u193 u194 u195 u196 u197 u198 u199 u200 u201 u202 u203 u204 u205 u206 u207 u208 u209 : Value} {Q : Exit → Act → World → Prop}
    (hK : Hid (∀ (v5 x138 x139 x140 x141 x142 x143 x144 x145 x146 x147 x148 x149 x150 : Value) (w' : World), Below w.heap.size w w' → Ro 9 w.heap.size w' v5 ((rcC A ++ [.string (strOfNums bs)]) ++ rcC C) → Q .normal ⟨#[u0, u1, u2, u3, u4, v5, u6, .pointer (some ⟨ob, 0, none⟩), .int .i64 (kk : Int), u9, .slice (some ⟨xb, 0, none⟩) m m, u11, u12, u13, u14, u15, u16, u17, u18, u19, u20, u21, u22, u23, u24, u25, u26, u27, u28, u29, u30, u31, u32, u33, u34, u35, u36, u37, u38, u39, u40, u41, u42, u43, u44, u45, u46, u47, u48, u49, u50, u51, u52, u53, u54, u55, u56, u57, u58, u59, u60, u61, u62, u63, u64, u65, u66, u67, u68, u69, u70, u71, u72, u73, u74, u75, u76, u77, u78, u79, u80, u81, u82, u83, u84, u85, u86, u87, u88, u89, u90, u91, u92, u93, u94, u95, u96, u97, u98, u99, u100, u101, u102, u103, u104, u105, u106, u107, u108, u109, u110, u111, u112, u113, u114, u115, u116, u117, u118, u119, u120, u121, u122, u123, u124, u125, u126, u127, u128, u129, u130, u131, u132, u133, u134, u135, u136, u137, x138, x139, x140, x141, x142, x143, x144, x145, x146, x147, x148, x149, x150, u151, u152, u153, u154, u155, u156, u157, u158, u159, u160, u161, u162, u163, u164, u165, u166, u167, u168, u169, u170, u171, u172, u173, u174, u175, u176, u177, u178, u179, u180, u181, u182, u183, u184, u185, u186, u187, u188, u189, u190, u191, u192, u193, u194, u195, u196, u197, u198, u199, u200, u201, u202, u203, u204, u205, u206, u207, u208, u209], []⟩ w')) :
    Code.wp Try.prog (regA 34) Q ⟨#[u0, u1, u2, u3, u4, vi, u6, .pointer (some ⟨ob, 0, none⟩), .int .i64 (kk : Int), u9, .slice (some ⟨xb, 0, none⟩) m m, u11, u12, u13, u14, u15, u16, u17, u18, u19, u20, u21, u22, u23, u24, u25, u26, u27, u28, u29, u30, u31, u32, u33, u34, u35, u36, u37, u38, u39, u40, u41, u42, u43, u44, u45, u46, u47, u48, u49, u50, u51, u52, u53, u54, u55, u56, u57, u58, u59, u60, u61, u62, u63, u64, u65, u66, u67, u68, u69, u70, u71, u72, u73, u74, u75, u76, u77, u78, u79, u80, u81, u82, u83, u84, u85, u86, u87, u88, u89, u90, u91, u92, u93, u94, u95, u96, u97, u98, u99, u100, u101, u102, u103, u104, u105, u106, u107, u108, u109, u110, u111, u112, u113, u114, u115, u116, u117, u118, u119, u120, u121, u122, u123, u124, u125, u126, u127, u128, u129, u130, u131, u132, u133, u134, u135, u136, u137, u138, u139, u140, u141, u142, u143, u144, u145, u146, u147, u148, u149, u150, u151, u152, u153, u154, u155, u156, u157, u158, u159, u160, u161, u162, u163, u164, u165, u166, u167, u168, u169, u170, u171, u172, u173, u174, u175, u176, u177, u178, u179, u180, u181, u182, u183, u184, u185, u186, u187, u188, u189, u190, u191, u192, u193, u194, u195, u196, u197, u198, u199, u200, u201, u202, u203, u204, u205, u206, u207, u208, u209], []⟩ w := by
  conv => arg 2; whnf
  obtain ⟨sA, hsA, SA⟩ := hvi.lo elS (k := kk) (x := (kk : Int)) (by rw [rcC_len, List.length_append]; omega) rfl
  obtain ⟨sC, hsC, SC⟩ := hvi.hi elS (k := kk) (x := (kk : Int)) (by rw [rcC_len, List.length_append]; omega) rfl
  rw [rcC_take hlen] at SA
  rw [rcC_drop hlen] at SC
  have hlA : (rcC A).length ≤ 100 := by rw [rcC_len]; rw [List.length_append] at hl; omega
  have hlC : (rcC C).length ≤ 100 := by rw [rcC_len]; rw [List.length_append] at hl; omega
  have oE : Ro 9 w.heap.size (w.alloc (.cells #[] 9)) (.slice (some ⟨w.heap.size, 0, none⟩) 0 0) [] := Ro.made w (Nat.le_refl _)
  have oEO : ∀ o, Ro 9 w.heap.size ((w.alloc (.cells #[] 9)).alloc o) (.slice (some ⟨w.heap.size, 0, none⟩) 0 0) [] := fun o => oE.later ((Below.refl _ _).alloc (Nat.le_refl _) _)
  have oOE : ∀ o, Ro 9 w.heap.size ((w.alloc o).alloc (.cells #[] 9)) (.slice (some ⟨w.heap.size + 1, 0, none⟩) 0 0) [] := fun o => by
    have := Ro.made (E := 9) (B := w.heap.size) (w.alloc o) (by simp)
    simpa using this
  have sOE : Src ((w.alloc (.cells #[.string (strOfNums bs)] 9)).alloc (.cells #[] 9)) (.slice (some ⟨w.heap.size, 0, none⟩) 1 1) [.string (strOfNums bs)] := (Src.one w 9 (.string (strOfNums bs))).later ((Below.refl _ _).alloc (Nat.le_refl _) _)
  have sEO : Src ((w.alloc (.cells #[] 9)).alloc (.cells #[.string (strOfNums bs)] 9)) (.slice (some ⟨w.heap.size + 1, 0, none⟩) 1 1) [.string (strOfNums bs)] := by
    have := Src.one (w.alloc (.cells #[] 9)) 9 (.string (strOfNums bs))
    simpa using this
  have hx1 : ∀ u ∈ ([.string (strOfNums bs)] : List Value), u.oneCell' = true := by intro u hu; cases List.mem_singleton.1 hu; rfl
  have iA := rcC_one A
  have iC := rcC_one C
  have bD : Below w.heap.size w w := Below.refl _ _
  clear hvi hl
  go_region_held3 (fun w' => (convert 31 9 (.slice (some ⟨xb, 0, none⟩) m m)).run Try.prog w' = .ok (.string (strOfNums bs)) w') (exact hc.out _ (by repeat (first | assumption | refine bal ?_ _ | refine Below.drew ?_)))
    (first
      | (first
          | refine step_ro elS rfl (.tmp 138) (.tmp 141) rfl (by simp [Act.eval, Act.put]) (by simp [Act.eval, Act.put]) oE (SA.later (by repeat (first | assumption | refine bal ?_ _ | refine Below.drew ?_))) iA (by simp; omega) (by simp; try omega) ?_
          | refine step_ro elS rfl (.tmp 138) (.tmp 141) rfl (by simp [Act.eval, Act.put]) (by simp [Act.eval, Act.put]) (oOE _) (SA.later (by repeat (first | assumption | refine bal ?_ _ | refine Below.drew ?_))) iA (by simp; omega) (by simp; try omega) ?_
          | refine step_ro elS rfl (.tmp 138) (.tmp 141) rfl (by simp [Act.eval, Act.put]) (by simp [Act.eval, Act.put]) (oEO _) (SA.later (by repeat (first | assumption | refine bal ?_ _ | refine Below.drew ?_))) iA (by simp; omega) (by simp; try omega) ?_
         intro v1 z1 o1 b1 q1
         have B1 : Below w.heap.size w z1 := Below.trans (by repeat (first | assumption | refine bal ?_ _ | refine Below.drew ?_)) b1)
      | (first
          | refine step_ro elS rfl (.tmp 142) (.tmp 145) rfl (by simp [Act.eval, Act.put]) (by simp [Act.eval, Act.put]) (o1.later ((Below.refl _ _).alloc (Nat.le_refl _) _)) (Src.one z1 9 (.string (strOfNums bs))) hx1 (by simp; omega) (Nat.le_trans B1.size (by simp)) ?_
          | refine step_ro elS rfl (.tmp 142) (.tmp 145) rfl (by simp [Act.eval, Act.put]) (by simp [Act.eval, Act.put]) o1 (sOE.blk (q1 _ (by simp; try omega) (by simp [Value.ownBlock]))) hx1 (by simp; omega) B1.size ?_
          | refine step_ro elS rfl (.tmp 142) (.tmp 145) rfl (by simp [Act.eval, Act.put]) (by simp [Act.eval, Act.put]) o1 (sEO.blk (q1 _ (by simp; try omega) (by simp [Value.ownBlock]))) hx1 (by simp; omega) B1.size ?_
         intro v2 z2 o2 b2 q2
         have B2 : Below w.heap.size w z2 := Below.trans (by repeat (first | assumption | refine bal ?_ _ | refine Below.drew ?_)) b2)
      | (refine step_ro elS rfl (.tmp 146) (.tmp 149) rfl (by simp [Act.eval, Act.put]) (by simp [Act.eval, Act.put]) o2 (SC.later B2) iC (by simp; omega) B2.size ?_
         intro v3 z3 o3 b3 q3
         have B3 : Below w.heap.size w z3 := B2.trans b3))
  all_goals
    go_wp2
    exact hK.out _ _ _ _ _ _ _ _ _ _ _ _ _ _ _ B3 o3


end Go.Proofs.Ytmfoenhbldacfaa
