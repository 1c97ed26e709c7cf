import Derived.Test.YtmfoenhbldacfaaQbr
/- HeapAll: rows without one -/
namespace Go.Proofs.Ytmfoenhbldacfaa
open Go.RowKit Go.Shelf
set_option linter.unusedVariables false
set_option linter.unusedSimpArgs false

set_option maxRecDepth 1000000 in
set_option maxHeartbeats 2000000 in
theorem r40_any {w : World} {B : Nat} {vi : Value} {ob kk : Nat} {A C : List Rec} (hvi : Ro 28 B w vi (idC (A ++ C))) (hlen : A.length = kk) (hl : (A ++ C).length ≤ 100) (hk : kk < (A ++ C).length) {u0 u1 u2 u3 u5 u6 u9 u10 u11 u12 u13 u14 u15 u16 u17 u18 u19 u20 u21 u22 u23 u24 u25 u26 u27 u28 u29 u30 u31 u32 u33 u34 u35 u36 u37 u38 u39 u40 u41 u42 u43 u44 u45 u46 u47 u48 u49 u50 u51 u52 u53 u54 u55 u56 u57 u58 u59 u60 u61 u62 u63 u64 u65 u66 u67 u68 u69 u70 u71 u72 u73 u74 u75 u76 u77 u78 u79 u80 u81 u82 u83 u84 u85 u86 u87 u88 u89 u90 u91 u92 u93 u94 u95 u96 u97 u98 u99 u100 u101 u102 u103 u104 u105 u106 u107 u108 u109 u110 u111 u112 u113 u114 u115 u116 u117 u118 u119 u120 u121 u122 u123 u124 u125 u126 u127 u128 u129 u130 u131 u132 u133 u134 u135 u136 u137 u138 u139 u140 u141 u142 u143 u144 u145 u146 u147 u148 u149 u150 u151 u152 u153 u154 u155 u156 u157 u158 u159 u160 u161 u162 u163 u164 u165 u166 u167 u168 u169 u170 u171 u172 u173 u174 u175 u176 u177 u178 u179 u180 u181 u182 u183 u184 u185 u186 u187 u188 u189 u190 u191 u192 u193 u194 u195 u196 u197 u198 u199 u200 u201 u202 u203 u204 u205 u206 u207 u208 u209 : Value} {K' : Act → World → Prop} {Q : Exit → Act → World → Prop}
    (hK : Hid (∀ (v4 x171 x172 x173 x174 x175 x176 x177 x178 x179 x180 : Value) (w' : World), Below w.heap.size w w' → Ro 28 w.heap.size w' v4 (idC A ++ (idC (A ++ C)).drop (kk + 1)) → K' ⟨#[u0, u1, u2, u3, v4, u5, u6, .pointer (some ⟨ob, 0, none⟩), .int .i64 (kk : Int), u9, u10, u11, u12, u13, u14, u15, u16, u17, u18, u19, u20, u21, u22, u23, u24, u25, u26, u27, u28, u29, u30, u31, u32, u33, u34, u35, u36, u37, u38, u39, u40, u41, u42, u43, u44, u45, u46, u47, u48, u49, u50, u51, u52, u53, u54, u55, u56, u57, u58, u59, u60, u61, u62, u63, u64, u65, u66, u67, u68, u69, u70, u71, u72, u73, u74, u75, u76, u77, u78, u79, u80, u81, u82, u83, u84, u85, u86, u87, u88, u89, u90, u91, u92, u93, u94, u95, u96, u97, u98, u99, u100, u101, u102, u103, u104, u105, u106, u107, u108, u109, u110, u111, u112, u113, u114, u115, u116, u117, u118, u119, u120, u121, u122, u123, u124, u125, u126, u127, u128, u129, u130, u131, u132, u133, u134, u135, u136, u137, u138, u139, u140, u141, u142, u143, u144, u145, u146, u147, u148, u149, u150, u151, u152, u153, u154, u155, u156, u157, u158, u159, u160, u161, u162, u163, u164, u165, u166, u167, u168, u169, u170, x171, x172, x173, x174, x175, x176, x177, x178, x179, x180, u181, u182, u183, u184, u185, u186, u187, u188, u189, u190, u191, u192, u193, u194, u195, u196, u197, u198, u199, u200, u201, u202, u203, u204, u205, u206, u207, u208, u209], []⟩ w')) :
    Code.wp Try.prog (regA 40) (Exit.then K' Q) ⟨#[u0, u1, u2, u3, vi, u5, u6, .pointer (some ⟨ob, 0, none⟩), .int .i64 (kk : Int), u9, u10, u11, u12, u13, u14, u15, u16, u17, u18, u19, u20, u21, u22, u23, u24, u25, u26, u27, u28, u29, u30, u31, u32, u33, u34, u35, u36, u37, u38, u39, u40, u41, u42, u43, u44, u45, u46, u47, u48, u49, u50, u51, u52, u53, u54, u55, u56, u57, u58, u59, u60, u61, u62, u63, u64, u65, u66, u67, u68, u69, u70, u71, u72, u73, u74, u75, u76, u77, u78, u79, u80, u81, u82, u83, u84, u85, u86, u87, u88, u89, u90, u91, u92, u93, u94, u95, u96, u97, u98, u99, u100, u101, u102, u103, u104, u105, u106, u107, u108, u109, u110, u111, u112, u113, u114, u115, u116, u117, u118, u119, u120, u121, u122, u123, u124, u125, u126, u127, u128, u129, u130, u131, u132, u133, u134, u135, u136, u137, u138, u139, u140, u141, u142, u143, u144, u145, u146, u147, u148, u149, u150, u151, u152, u153, u154, u155, u156, u157, u158, u159, u160, u161, u162, u163, u164, u165, u166, u167, u168, u169, u170, u171, u172, u173, u174, u175, u176, u177, u178, u179, u180, u181, u182, u183, u184, u185, u186, u187, u188, u189, u190, u191, u192, u193, u194, u195, u196, u197, u198, u199, u200, u201, u202, u203, u204, u205, u206, u207, u208, u209], []⟩ w := by
  conv => arg 2; whnf
  obtain ⟨sA, hsA, SA⟩ := hvi.lo elU (k := kk) (x := (kk : Int)) (by rw [idC_len, List.length_append]; omega) rfl
  obtain ⟨sC, hsC, SC⟩ := hvi.hi elU (k := kk + 1) (x := (kk : Int) + 1) (by rw [idC_len]; omega) (by omega)
  rw [idC_take hlen] at SA
  have hlA : (idC A).length ≤ 100 := by rw [idC_len]; rw [List.length_append] at hl; omega
  have hlC : ((idC (A ++ C)).drop (kk + 1)).length ≤ 100 := by rw [List.length_drop, idC_len]; omega
  have oE : Ro 28 w.heap.size (w.alloc (.cells #[] 28)) (.slice (some ⟨w.heap.size, 0, none⟩) 0 0) [] := Ro.made w (Nat.le_refl _)
  have iA := idC_one A
  have iC : ∀ u ∈ (idC (A ++ C)).drop (kk + 1), u.oneCell' = true := fun u hu => idC_one (A ++ C) u (List.mem_of_mem_drop hu)
  have bD : Below w.heap.size w w := Below.refl _ _
  have hk100 : kk ≤ 100 := by omega
  have hwr : IntKind.i64.wrap ((kk : Int) + 1) = (kk : Int) + 1 := by rw [IntKind.wrap_i64]; omega
  clear hvi hl hk
  go_region_held3 (fun _ => True) (trivial)
    (first
      | (refine step_ro elU rfl (.tmp 171) (.tmp 174) rfl (by simp [Act.eval, Act.put]) (by simp [Act.eval, Act.put]) oE (SA.later (by repeat (first | assumption | refine bal ?_ _ | refine Below.drew ?_))) iA (by simp; omega) (by simp) ?_
         intro v1 z1 o1 b1 q1
         have B1 : Below w.heap.size w z1 := Below.trans (by repeat (first | assumption | refine bal ?_ _ | refine Below.drew ?_)) b1)
      | (refine step_ro elU rfl (.tmp 175) (.tmp 179) rfl (by simp [Act.eval, Act.put]) (by simp [Act.eval, Act.put]) o1 (SC.later B1) iC (by rw [List.nil_append]; omega) B1.size ?_
         intro v3 z3 o3 b3 q3
         have B3 : Below w.heap.size w z3 := B1.trans b3))
  all_goals
    go_wp2
    exact hK.out _ _ _ _ _ _ _ _ _ _ _ _ B3 o3

set_option maxRecDepth 1000000 in
set_option maxHeartbeats 2000000 in
theorem r41_any {w : World} {B : Nat} {vi : Value} {ob kk : Nat} {A C : List Rec} (hvi : Ro 9 B w vi (rcC (A ++ C))) (hlen : A.length = kk) (hl : (A ++ C).length ≤ 100) (hk : kk < (A ++ C).length) {u0 u1 u2 u3 u4 u6 u9 u10 u11 u12 u13 u14 u15 u16 u17 u18 u19 u20 u21 u22 u23 u24 u25 u26 u27 u28 u29 u30 u31 u32 u33 u34 u35 u36 u37 u38 u39 u40 u41 u42 u43 u44 u45 u46 u47 u48 u49 u50 u51 u52 u53 u54 u55 u56 u57 u58 u59 u60 u61 u62 u63 u64 u65 u66 u67 u68 u69 u70 u71 u72 u73 u74 u75 u76 u77 u78 u79 u80 u81 u82 u83 u84 u85 u86 u87 u88 u89 u90 u91 u92 u93 u94 u95 u96 u97 u98 u99 u100 u101 u102 u103 u104 u105 u106 u107 u108 u109 u110 u111 u112 u113 u114 u115 u116 u117 u118 u119 u120 u121 u122 u123 u124 u125 u126 u127 u128 u129 u130 u131 u132 u133 u134 u135 u136 u137 u138 u139 u140 u141 u142 u143 u144 u145 u146 u147 u148 u149 u150 u151 u152 u153 u154 u155 u156 u157 u158 u159 u160 u161 u162 u163 u164 u165 u166 u167 u168 u169 u170 u171 u172 u173 u174 u175 u176 u177 u178 u179 u180 u181 u182 u183 u184 u185 u186 u187 u188 u189 u190 u191 u192 u193 u194 u195 u196 u197 u198 u199 u200 u201 u202 u203 u204 u205 u206 u207 u208 u209 : Value} {Q : Exit → Act → World → Prop}
    (hK : Hid (∀ (v5 x181 x182 x183 x184 x185 x186 x187 x188 x189 x190 : Value) (w' : World), Below w.heap.size w w' → Ro 9 w.heap.size w' v5 (rcC A ++ (rcC (A ++ C)).drop (kk + 1)) → Q .normal ⟨#[u0, u1, u2, u3, u4, v5, u6, .pointer (some ⟨ob, 0, none⟩), .int .i64 (kk : Int), u9, u10, u11, u12, u13, u14, u15, u16, u17, u18, u19, u20, u21, u22, u23, u24, u25, u26, u27, u28, u29, u30, u31, u32, u33, u34, u35, u36, u37, u38, u39, u40, u41, u42, u43, u44, u45, u46, u47, u48, u49, u50, u51, u52, u53, u54, u55, u56, u57, u58, u59, u60, u61, u62, u63, u64, u65, u66, u67, u68, u69, u70, u71, u72, u73, u74, u75, u76, u77, u78, u79, u80, u81, u82, u83, u84, u85, u86, u87, u88, u89, u90, u91, u92, u93, u94, u95, u96, u97, u98, u99, u100, u101, u102, u103, u104, u105, u106, u107, u108, u109, u110, u111, u112, u113, u114, u115, u116, u117, u118, u119, u120, u121, u122, u123, u124, u125, u126, u127, u128, u129, u130, u131, u132, u133, u134, u135, u136, u137, u138, u139, u140, u141, u142, u143, u144, u145, u146, u147, u148, u149, u150, u151, u152, u153, u154, u155, u156, u157, u158, u159, u160, u161, u162, u163, u164, u165, u166, u167, u168, u169, u170, u171, u172, u173, u174, u175, u176, u177, u178, u179, u180, x181, x182, x183, x184, x185, x186, x187, x188, x189, x190, u191, u192, u193, u194, u195, u196, u197, u198, u199, u200, u201, u202, u203, u204, u205, u206, u207, u208, u209], []⟩ w')) :
    Code.wp Try.prog (regA 41) Q ⟨#[u0, u1, u2, u3, u4, vi, u6, .pointer (some ⟨ob, 0, none⟩), .int .i64 (kk : Int), u9, u10, u11, u12, u13, u14, u15, u16, u17, u18, u19, u20, u21, u22, u23, u24, u25, u26, u27, u28, u29, u30, u31, u32, u33, u34, u35, u36, u37, u38, u39, u40, u41, u42, u43, u44, u45, u46, u47, u48, u49, u50, u51, u52, u53, u54, u55, u56, u57, u58, u59, u60, u61, u62, u63, u64, u65, u66, u67, u68, u69, u70, u71, u72, u73, u74, u75, u76, u77, u78, u79, u80, u81, u82, u83, u84, u85, u86, u87, u88, u89, u90, u91, u92, u93, u94, u95, u96, u97, u98, u99, u100, u101, u102, u103, u104, u105, u106, u107, u108, u109, u110, u111, u112, u113, u114, u115, u116, u117, u118, u119, u120, u121, u122, u123, u124, u125, u126, u127, u128, u129, u130, u131, u132, u133, u134, u135, u136, u137, u138, u139, u140, u141, u142, u143, u144, u145, u146, u147, u148, u149, u150, u151, u152, u153, u154, u155, u156, u157, u158, u159, u160, u161, u162, u163, u164, u165, u166, u167, u168, u169, u170, u171, u172, u173, u174, u175, u176, u177, u178, u179, u180, u181, u182, u183, u184, u185, u186, u187, u188, u189, u190, u191, u192, u193, u194, u195, u196, u197, u198, u199, u200, u201, u202, u203, u204, u205, u206, u207, u208, u209], []⟩ w := by
  conv => arg 2; whnf
  obtain ⟨sA, hsA, SA⟩ := hvi.lo elS (k := kk) (x := (kk : Int)) (by rw [rcC_len, List.length_append]; omega) rfl
  obtain ⟨sC, hsC, SC⟩ := hvi.hi elS (k := kk + 1) (x := (kk : Int) + 1) (by rw [rcC_len]; omega) (by omega)
  rw [rcC_take hlen] at SA
  have hlA : (rcC A).length ≤ 100 := by rw [rcC_len]; rw [List.length_append] at hl; omega
  have hlC : ((rcC (A ++ C)).drop (kk + 1)).length ≤ 100 := by rw [List.length_drop, rcC_len]; omega
  have oE : Ro 9 w.heap.size (w.alloc (.cells #[] 9)) (.slice (some ⟨w.heap.size, 0, none⟩) 0 0) [] := Ro.made w (Nat.le_refl _)
  have iA := rcC_one A
  have iC : ∀ u ∈ (rcC (A ++ C)).drop (kk + 1), u.oneCell' = true := fun u hu => rcC_one (A ++ C) u (List.mem_of_mem_drop hu)
  have bD : Below w.heap.size w w := Below.refl _ _
  have hk100 : kk ≤ 100 := by omega
  have hwr : IntKind.i64.wrap ((kk : Int) + 1) = (kk : Int) + 1 := by rw [IntKind.wrap_i64]; omega
  clear hvi hl hk
  go_region_held3 (fun _ => True) (trivial)
    (first
      | (refine step_ro elS rfl (.tmp 181) (.tmp 184) rfl (by simp [Act.eval, Act.put]) (by simp [Act.eval, Act.put]) oE (SA.later (by repeat (first | assumption | refine bal ?_ _ | refine Below.drew ?_))) iA (by simp; omega) (by simp) ?_
         intro v1 z1 o1 b1 q1
         have B1 : Below w.heap.size w z1 := Below.trans (by repeat (first | assumption | refine bal ?_ _ | refine Below.drew ?_)) b1)
      | (refine step_ro elS rfl (.tmp 185) (.tmp 189) rfl (by simp [Act.eval, Act.put]) (by simp [Act.eval, Act.put]) o1 (SC.later B1) iC (by rw [List.nil_append]; omega) B1.size ?_
         intro v3 z3 o3 b3 q3
         have B3 : Below w.heap.size w z3 := B1.trans b3))
  all_goals
    go_wp2
    exact hK.out _ _ _ _ _ _ _ _ _ _ _ _ B3 o3


end Go.Proofs.Ytmfoenhbldacfaa
/- HeapAll: Drop -/
namespace Go.Proofs.Ytmfoenhbldacfaa
open Go.RowKit Go.Shelf
set_option linter.unusedVariables false
set_option linter.unusedSimpArgs false

set_option maxRecDepth 1000000 in
set_option maxHeartbeats 2000000 in
theorem sw_drop {W w : World} {hb ob xb k j kk m : Nat} {A C : List Rec} {vi vr : Value} {K S D X d : Int} {is : Bool} {bs : List Int} (S6 : Hid (Sg W w hb (fun x => lk (A ++ C) x) (A ++ C).length k (A ++ C) vi vr)) (O6 : Hid (Ob w ob K S D X)) (bxW : Hid (Bx8 W w xb bs)) (hSpl : Hid (Spl (A ++ C) D kk A C)) (his : Hid (is = decide (kk < (A ++ C).length ∧ nth (ks (A ++ C)) kk = D))) (hLk : Hid ((A ++ C).length ≤ j ∧ k ≤ j)) (hj : j < 80) (hm : m ≤ 300) (hbl : Hid (bs.length = m)) (hby : Hid (By bs)) (hd4 : ¬ d < 4) (hd6 : d < 6) {u0 u1 u2 u6 u11 u13 u14 u15 u16 u17 u18 u19 u20 u21 u22 u23 u24 u25 u26 u27 u28 u29 u30 u31 u32 u33 u34 u35 u36 u37 u38 u39 u40 u41 u42 u43 u44 u45 u46 u47 u48 u49 u50 u51 u52 u53 u54 u55 u56 u57 u58 u59 u60 u61 u62 u63 u64 u65 u66 u67 u68 u69 u70 u71 u72 u73 u74 u75 u76 u77 u78 u79 u80 u81 u82 u83 u84 u85 u86 u87 u88 u89 u90 u91 u92 u93 u94 u95 u96 u97 u98 u99 u100 u101 u102 u103 u104 u105 u106 u107 u108 u109 u110 u111 u112 u113 u114 u115 u116 u117 u118 u119 u120 u121 u122 u123 u124 u125 u126 u127 u128 u129 u130 u131 u132 u133 u134 u135 u136 u137 u138 u139 u140 u141 u142 u143 u144 u145 u146 u147 u148 u149 u150 u151 u152 u153 u154 u155 u156 u157 u158 u159 u160 u161 u162 u163 u164 u165 u166 u167 u168 u169 u170 u171 u172 u173 u174 u175 u176 u177 u178 u179 u180 u181 u182 u183 u184 u185 u186 u187 u188 u189 u190 u191 u192 u193 u194 u195 u196 u197 u198 u199 u200 u201 u202 u203 u204 u205 u206 u207 u208 u209 : Value} {K' : Act → World → Prop} {Q : Exit → Act → World → Prop}
    (hK : Hid (∀ (x2 v4 v5 x13 x14 x15 x16 x85 x86 x87 x88 x89 x90 x91 x92 x93 x94 x95 x96 x97 x98 x99 x100 x101 x102 x103 x104 x105 x106 x107 x108 x109 x110 x111 x112 x113 x114 x115 x116 x117 x118 x119 x120 x121 x122 x123 x124 x125 x126 x127 x128 x129 x130 x131 x132 x133 x134 x135 x136 x137 x138 x139 x140 x141 x142 x143 x144 x145 x146 x147 x148 x149 x150 x151 x152 x153 x154 x155 x156 x157 x158 x159 x160 x161 x162 x163 x164 x165 x166 x167 x168 x169 x170 x171 x172 x173 x174 x175 x176 x177 x178 x179 x180 x181 x182 x183 x184 x185 x186 x187 x188 x189 x190 x191 x192 x193 x194 x195 x196 x197 x198 x199 x200 x201 x202 : Value) (w' : World), (∃ (L' : List Rec) (k' : Nat), Hid (L'.length ≤ j + 1 ∧ k' ≤ j + 1) ∧ Sg W w' hb (fun x => lk L' x) L'.length k' L' v4 v5 ∧ Ob w' ob K S D X) → K' ⟨#[u0, u1, x2, .pointer (some ⟨hb, 0, none⟩), v4, v5, u6, .pointer (some ⟨ob, 0, none⟩), .int .i64 (kk : Int), .bool is, .slice (some ⟨xb, 0, none⟩) m m, u11, .int .i64 d, x13, x14, x15, x16, u17, u18, u19, u20, u21, u22, u23, u24, u25, u26, u27, u28, u29, u30, u31, u32, u33, u34, u35, u36, u37, u38, u39, u40, u41, u42, u43, u44, u45, u46, u47, u48, u49, u50, u51, u52, u53, u54, u55, u56, u57, u58, u59, u60, u61, u62, u63, u64, u65, u66, u67, u68, u69, u70, u71, u72, u73, u74, u75, u76, u77, u78, u79, u80, u81, u82, u83, u84, x85, x86, x87, x88, x89, x90, x91, x92, x93, x94, x95, x96, x97, x98, x99, x100, x101, x102, x103, x104, x105, x106, x107, x108, x109, x110, x111, x112, x113, x114, x115, x116, x117, x118, x119, x120, x121, x122, x123, x124, x125, x126, x127, x128, x129, x130, x131, x132, x133, x134, x135, x136, x137, x138, x139, x140, x141, x142, x143, x144, x145, x146, x147, x148, x149, x150, x151, x152, x153, x154, x155, x156, x157, x158, x159, x160, x161, x162, x163, x164, x165, x166, x167, x168, x169, x170, x171, x172, x173, x174, x175, x176, x177, x178, x179, x180, x181, x182, x183, x184, x185, x186, x187, x188, x189, x190, x191, x192, x193, x194, x195, x196, x197, x198, x199, x200, x201, x202, u203, u204, u205, u206, u207, u208, u209], []⟩ w')) :
    Code.wp Try.prog (blkA 6) (Exit.then K' Q) ⟨#[u0, u1, u2, .pointer (some ⟨hb, 0, none⟩), vi, vr, u6, .pointer (some ⟨ob, 0, none⟩), .int .i64 (kk : Int), .bool is, .slice (some ⟨xb, 0, none⟩) m m, u11, .int .i64 d, u13, u14, u15, u16, u17, u18, u19, u20, u21, u22, u23, u24, u25, u26, u27, u28, u29, u30, u31, u32, u33, u34, u35, u36, u37, u38, u39, u40, u41, u42, u43, u44, u45, u46, u47, u48, u49, u50, u51, u52, u53, u54, u55, u56, u57, u58, u59, u60, u61, u62, u63, u64, u65, u66, u67, u68, u69, u70, u71, u72, u73, u74, u75, u76, u77, u78, u79, u80, u81, u82, u83, u84, u85, u86, u87, u88, u89, u90, u91, u92, u93, u94, u95, u96, u97, u98, u99, u100, u101, u102, u103, u104, u105, u106, u107, u108, u109, u110, u111, u112, u113, u114, u115, u116, u117, u118, u119, u120, u121, u122, u123, u124, u125, u126, u127, u128, u129, u130, u131, u132, u133, u134, u135, u136, u137, u138, u139, u140, u141, u142, u143, u144, u145, u146, u147, u148, u149, u150, u151, u152, u153, u154, u155, u156, u157, u158, u159, u160, u161, u162, u163, u164, u165, u166, u167, u168, u169, u170, u171, u172, u173, u174, u175, u176, u177, u178, u179, u180, u181, u182, u183, u184, u185, u186, u187, u188, u189, u190, u191, u192, u193, u194, u195, u196, u197, u198, u199, u200, u201, u202, u203, u204, u205, u206, u207, u208, u209], []⟩ w := by
  conv => arg 2; whnf
  have g5 : decide (d < 4) = false := by simpa using hd4
  have g6 : decide (d < 6) = true := by simpa using hd6
  have hl80 : (A ++ C).length ≤ 80 := by have := hLk.out.1; omega
  have hlen := hSpl.out.len
  have e2 := O6.out.c2
  cases is with
  | false =>
    have hno := (hSpl.out.isno S6.out.srt (fun h1 h2 => of_decide_eq_false his.out.symm ⟨h1, h2⟩)).2
    have HD : Hid _ := hid (hdropno_any S6.out.ha D hno)
    replace hlen : Hid _ := hid hlen
    replace hno : Hid _ := hid hno
    go_wp2_with fail
    refine Calls.mono HD.out ?_
    rintro e w7 ⟨rfl, hb7⟩
    clear HD e2
    go_wp2
    exact hK.out _ _ _ _ _ _ _ _ _ _ _ _ _ _ _ _ _ _ _ _ _ _ _ _ _ _ _ _ _ _ _ _ _ _ _ _ _ _ _ _ _ _ _ _ _ _ _ _ _ _ _ _ _ _ _ _ _ _ _ _ _ _ _ _ _ _ _ _ _ _ _ _ _ _ _ _ _ _ _ _ _ _ _ _ _ _ _ _ _ _ _ _ _ _ _ _ _ _ _ _ _ _ _ _ _ _ _ _ _ _ _ _ _ _ _ _ _ _ _ _ _ _ _ _ _ _ ⟨A ++ C, k, hid ⟨by have := hLk.out.1; omega, by have := hLk.out.2; omega⟩, S6.out.later hb7, O6.out.later hb7⟩
  | true =>
    obtain ⟨hk, he⟩ := of_decide_eq_true his.out.symm
    obtain ⟨b0, C', hC', -, hlk⟩ := hSpl.out.is S6.out.srt hk he
    have HD : Hid _ := hid (hdropm_any S6.out.ha D (by show lk (A ++ C) D ≠ none; rw [hlk]; simp) (by omega))
    replace hlen : Hid _ := hid hlen
    replace hk : Hid _ := hid hk
    replace he : Hid _ := hid he
    replace hl80 : Hid _ := hid hl80
    clear hC' hlk
    go_wp2_with fail
    refine Calls.mono HD.out ?_
    rintro e w7 ⟨rfl, hA7, hf7⟩
    have S7 : Hid _ := hid (S6.out.heap hA7 hf7)
    have O7 : Hid _ := hid (O6.out.ft hf7)
    clear HD e2 hA7 hf7
    go_upto_region 40 with fail
    refine r40_any S7.out.ids hlen.out (Nat.le_trans hl80.out (by omega)) hk.out (hid ?_)
    intro v4; intros; rename_i w8 hb8 o8
    go_upto_region 41 with fail
    refine r41_any (S7.out.recs.later hb8) hlen.out (Nat.le_trans hl80.out (by omega)) hk.out (hid ?_)
    intro v5; intros; rename_i w9 hb9 o9
    obtain ⟨L', hL', S9⟩ := S7.out.drop_is hSpl.out hk.out he.out (bthen hb8 hb9) (o8.later hb9) (o9.lower hb8.size)
    have hLn : Hid (L'.length ≤ j + 1) := hid (by have := hLk.out.1; omega)
    clear hL'
    go_wp2
    exact hK.out _ _ _ _ _ _ _ _ _ _ _ _ _ _ _ _ _ _ _ _ _ _ _ _ _ _ _ _ _ _ _ _ _ _ _ _ _ _ _ _ _ _ _ _ _ _ _ _ _ _ _ _ _ _ _ _ _ _ _ _ _ _ _ _ _ _ _ _ _ _ _ _ _ _ _ _ _ _ _ _ _ _ _ _ _ _ _ _ _ _ _ _ _ _ _ _ _ _ _ _ _ _ _ _ _ _ _ _ _ _ _ _ _ _ _ _ _ _ _ _ _ _ _ _ _ _ ⟨L', k, hid ⟨hLn.out, by have := hLk.out.2; omega⟩, S9, O7.out.later (bthen hb8 hb9)⟩


end Go.Proofs.Ytmfoenhbldacfaa
