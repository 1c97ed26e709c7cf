import Derived.Test.YtnboooaockgoiabMak
/- A door of no tags is added. -/
namespace Go.Proofs.Ytnboooaockgoiab
open Go.RowKit
set_option linter.unusedVariables false
set_option linter.unusedSimpArgs false

set_option maxRecDepth 100000 in
set_option maxHeartbeats 8000000 in
theorem addDoor_nil {S : List Tbl} {V0 : List Vw} (hSB : AllB TblB S) (hVB : AllB VwB V0) (hV4 : V0.length ≤ 400) {w : World} {ta : Option Addr} {tn tc : Nat} (hS : RowIs eTbl (fun _ => True) w (.slice ta tn tc) S) {vb : Option Addr} {vm vd : Nat} (hV : RowIs eVw (fun _ => True) w (.slice vb vm vd) V0) (stb : ByteArray) {snm : ByteArray} (hnB : StrB snm) (co1 : Option Addr) (co2 co3 : Nat) (va1 : Option Addr) (va2 va3 : Nat) (it1 : Option Addr) (it2 it3 : Nat) (sjn : ByteArray) (on1 : Option Addr) (on2 on3 : Nat) (wh1 : Option Addr) (wh2 wh3 : Nat) (od1 : Option Addr) (od2 od3 : Nat) (sds : Bool) {ib : Nat} {m : Sm} (hmB : SmB m) (hmk : m.kind = 6) {s : Sv} (hI : IsS (fun _ => True) w m s) (hin : s.inn = (none, 0, 0)) (hcs : ∀ j (hj : j < (svC s).length), w.cell? ⟨ib, j, none⟩ = some (svC s)[j]) :
    Calls Try.prog 12 #[.agg #[.slice ta tn tc, .slice vb vm vd], .agg #[.int .i64 3, .string stb, .string snm, .slice co1 co2 co3, .slice none 0 0, .slice va1 va2 va3, .slice it1 it2 it3, .string sjn, .slice on1 on2 on3, .slice wh1 wh2 wh3, .slice od1 od2 od3, .bool sds, .slice (some ⟨ib, 0, none⟩) 1 1], .slice none 0 0] w (TeA w (if mayDoorP V0 snm = 0 then S else []) (if mayDoorP V0 snm = 0 then V0 ++ [⟨snm, [], m⟩] else []) (mayDoorP V0 snm)) := by
  have hk6 : s.k = 6 := by rw [hI.k, hmk]
  have HI : Hid (∀ w', Below w.heap.size w w' → IsS (fun _ => True) w' m s) := hid fun w' hb => hI.keep fun b _ hl => hb.block b hl
  clear hI hmk
  obtain ⟨tk, ttb, tnm, ⟨xco1, xco2, xco3⟩, ⟨xta1, xta2, xta3⟩, ⟨xva1, xva2, xva3⟩, ⟨xit1, xit2, xit3⟩, tjn, ⟨xon1, xon2, xon3⟩, ⟨xwh1, xwh2, xwh3⟩, ⟨xod1, xod2, xod3⟩, tds, tinn⟩ := s
  replace hin : tinn = (none, 0, 0) := hin
  replace hk6 : tk = 6 := hk6
  subst hin hk6
  have i0 : w.cell? ⟨ib, 0, none⟩ = some (.int .i64 6) := hcs 0 (show 0 < 13 by decide)
  have i1 : w.cell? ⟨ib, 1, none⟩ = some (.string ttb) := hcs 1 (show 1 < 13 by decide)
  have i2 : w.cell? ⟨ib, 2, none⟩ = some (.string tnm) := hcs 2 (show 2 < 13 by decide)
  have i3 : w.cell? ⟨ib, 3, none⟩ = some (.slice xco1 xco2 xco3) := hcs 3 (show 3 < 13 by decide)
  have i4 : w.cell? ⟨ib, 4, none⟩ = some (.slice xta1 xta2 xta3) := hcs 4 (show 4 < 13 by decide)
  have i5 : w.cell? ⟨ib, 5, none⟩ = some (.slice xva1 xva2 xva3) := hcs 5 (show 5 < 13 by decide)
  have i6 : w.cell? ⟨ib, 6, none⟩ = some (.slice xit1 xit2 xit3) := hcs 6 (show 6 < 13 by decide)
  have i7 : w.cell? ⟨ib, 7, none⟩ = some (.string tjn) := hcs 7 (show 7 < 13 by decide)
  have i8 : w.cell? ⟨ib, 8, none⟩ = some (.slice xon1 xon2 xon3) := hcs 8 (show 8 < 13 by decide)
  have i9 : w.cell? ⟨ib, 9, none⟩ = some (.slice xwh1 xwh2 xwh3) := hcs 9 (show 9 < 13 by decide)
  have i10 : w.cell? ⟨ib, 10, none⟩ = some (.slice xod1 xod2 xod3) := hcs 10 (show 10 < 13 by decide)
  have i11 : w.cell? ⟨ib, 11, none⟩ = some (.bool tds) := hcs 11 (show 11 < 13 by decide)
  have i12 : w.cell? ⟨ib, 12, none⟩ = some (.slice none 0 0) := hcs 12 (show 12 < 13 by decide)
  clear hcs
  have hibw : ib < w.heap.size := World.block_lt_of_cell? _ _ i0
  have hw : Below w.heap.size w (((w.alloc (.cells #[.slice ta tn tc, .slice vb vm vd] 26)).alloc (.cells #[.int .i64 3, .string stb, .string snm, .slice co1 co2 co3, .slice none 0 0, .slice va1 va2 va3, .slice it1 it2 it3, .string sjn, .slice on1 on2 on3, .slice wh1 wh2 wh3, .slice od1 od2 od3, .bool sds, .slice (some ⟨ib, 0, none⟩) 1 1] 34)).alloc (.cells #[.slice none 0 0, .slice none 0 0] 26)) := bal (bal (bal (Below.refl _ _) _) _) _
  have H0 : Hid _ := hid (mayDoor_nil (V := V0) (by omega) ta tn tc (hV.keep (by decide) fun b _ hl => hw.block b hl) stb co1 co2 co3 va1 va2 va3 it1 it2 it3 sjn on1 on2 on3 wh1 wh2 wh3 od1 od2 od3 sds (snm := snm) (cell_later hw i0))
  have H4 : Hid (∀ w, _) := hid fun w => norm_nil w
  have H5 : Hid (∀ w', Below w.heap.size w w' → Calls Try.prog 27 #[.slice ta tn tc, .func (.func 28) #[] #[]] w' (TeR eTbl w' S)) := hid fun w' hb => copiesTbl_any (fun t ht => copyTable_cp t (hSB.2 t ht)) hSB.1 (hS.keep (by decide) fun b _ hl => hb.block b hl)
  have H6 : Hid (∀ w, _) := hid fun w => views_any ta tn tc vb vm vd w
  have H7 : Hid (∀ w', Below w.heap.size w w' → Calls Try.prog 30 #[.agg #[.slice vb vm vd, .func (.func 50) #[] #[], .func (.func 21) #[] #[]], .agg #[.string snm, .slice none 0 0, .int .i64 6, .string ttb, .string tnm, .slice xco1 xco2 xco3, .slice xta1 xta2 xta3, .slice xva1 xva2 xva3, .slice xit1 xit2 xit3, .string tjn, .slice xon1 xon2 xon3, .slice xwh1 xwh2 xwh3, .slice xod1 xod2 xod3, .bool tds, .slice none 0 0]] w' (TeR eVw w' (V0 ++ [⟨snm, [], m⟩]))) := hid fun w' hb => withVw_any hV4 (fun t ht => copyView_cp t (hVB.2 t ht)) (copyView_cp _ ⟨hnB, by simp, hmB⟩) (hV.keep (by decide) fun b _ hl => hb.block b hl) (cs := [.string snm, .slice none 0 0, .int .i64 6, .string ttb, .string tnm, .slice xco1 xco2 xco3, .slice xta1 xta2 xta3, .slice xva1 xva2 xva3, .slice xit1 xit2 xit3, .string tjn, .slice xon1 xon2 xon3, .slice xwh1 xwh2 xwh3, .slice xod1 xod2 xod3, .bool tds, .slice none 0 0]) ⟨_, _, _, (⟨6, ttb, tnm, (xco1, xco2, xco3), (xta1, xta2, xta3), (xva1, xva2, xva3), (xit1, xit2, xit3), tjn, (xon1, xon2, xon3), (xwh1, xwh2, xwh3), (xod1, xod2, xod3), tds, (none, 0, 0)⟩ : Sv), rfl, RowIs.nil _ _ _, HI.out w' hb, rfl⟩
  clear hS hV hSB hVB hmB HI
  have s0 := cell_later (bal (bal (Below.refl _ _) (.cells #[.int .i64 3, .string stb, .string snm, .slice co1 co2 co3, .slice none 0 0, .slice va1 va2 va3, .slice it1 it2 it3, .string sjn, .slice on1 on2 on3, .slice wh1 wh2 wh3, .slice od1 od2 od3, .bool sds, .slice (some ⟨ib, 0, none⟩) 1 1] 34)) (.cells #[.slice none 0 0, .slice none 0 0] 26)) (cell_new w #[.slice ta tn tc, .slice vb vm vd] 26 (0, 0) 0)
  have s1 := cell_later (bal (bal (Below.refl _ _) (.cells #[.int .i64 3, .string stb, .string snm, .slice co1 co2 co3, .slice none 0 0, .slice va1 va2 va3, .slice it1 it2 it3, .string sjn, .slice on1 on2 on3, .slice wh1 wh2 wh3, .slice od1 od2 od3, .bool sds, .slice (some ⟨ib, 0, none⟩) 1 1] 34)) (.cells #[.slice none 0 0, .slice none 0 0] 26)) (cell_new w #[.slice ta tn tc, .slice vb vm vd] 26 (0, 0) 1)
  have c0 := cell_later (bal (Below.refl _ _) (.cells #[.slice none 0 0, .slice none 0 0] 26)) (cell_new (w.alloc (.cells #[.slice ta tn tc, .slice vb vm vd] 26)) #[.int .i64 3, .string stb, .string snm, .slice co1 co2 co3, .slice none 0 0, .slice va1 va2 va3, .slice it1 it2 it3, .string sjn, .slice on1 on2 on3, .slice wh1 wh2 wh3, .slice od1 od2 od3, .bool sds, .slice (some ⟨ib, 0, none⟩) 1 1] 34 (0, 0) 0)
  have c1 := cell_later (bal (Below.refl _ _) (.cells #[.slice none 0 0, .slice none 0 0] 26)) (cell_new (w.alloc (.cells #[.slice ta tn tc, .slice vb vm vd] 26)) #[.int .i64 3, .string stb, .string snm, .slice co1 co2 co3, .slice none 0 0, .slice va1 va2 va3, .slice it1 it2 it3, .string sjn, .slice on1 on2 on3, .slice wh1 wh2 wh3, .slice od1 od2 od3, .bool sds, .slice (some ⟨ib, 0, none⟩) 1 1] 34 (0, 0) 1)
  have c2 := cell_later (bal (Below.refl _ _) (.cells #[.slice none 0 0, .slice none 0 0] 26)) (cell_new (w.alloc (.cells #[.slice ta tn tc, .slice vb vm vd] 26)) #[.int .i64 3, .string stb, .string snm, .slice co1 co2 co3, .slice none 0 0, .slice va1 va2 va3, .slice it1 it2 it3, .string sjn, .slice on1 on2 on3, .slice wh1 wh2 wh3, .slice od1 od2 od3, .bool sds, .slice (some ⟨ib, 0, none⟩) 1 1] 34 (0, 0) 2)
  have c3 := cell_later (bal (Below.refl _ _) (.cells #[.slice none 0 0, .slice none 0 0] 26)) (cell_new (w.alloc (.cells #[.slice ta tn tc, .slice vb vm vd] 26)) #[.int .i64 3, .string stb, .string snm, .slice co1 co2 co3, .slice none 0 0, .slice va1 va2 va3, .slice it1 it2 it3, .string sjn, .slice on1 on2 on3, .slice wh1 wh2 wh3, .slice od1 od2 od3, .bool sds, .slice (some ⟨ib, 0, none⟩) 1 1] 34 (0, 0) 3)
  have c4 := cell_later (bal (Below.refl _ _) (.cells #[.slice none 0 0, .slice none 0 0] 26)) (cell_new (w.alloc (.cells #[.slice ta tn tc, .slice vb vm vd] 26)) #[.int .i64 3, .string stb, .string snm, .slice co1 co2 co3, .slice none 0 0, .slice va1 va2 va3, .slice it1 it2 it3, .string sjn, .slice on1 on2 on3, .slice wh1 wh2 wh3, .slice od1 od2 od3, .bool sds, .slice (some ⟨ib, 0, none⟩) 1 1] 34 (0, 0) 4)
  have c5 := cell_later (bal (Below.refl _ _) (.cells #[.slice none 0 0, .slice none 0 0] 26)) (cell_new (w.alloc (.cells #[.slice ta tn tc, .slice vb vm vd] 26)) #[.int .i64 3, .string stb, .string snm, .slice co1 co2 co3, .slice none 0 0, .slice va1 va2 va3, .slice it1 it2 it3, .string sjn, .slice on1 on2 on3, .slice wh1 wh2 wh3, .slice od1 od2 od3, .bool sds, .slice (some ⟨ib, 0, none⟩) 1 1] 34 (0, 0) 5)
  have c6 := cell_later (bal (Below.refl _ _) (.cells #[.slice none 0 0, .slice none 0 0] 26)) (cell_new (w.alloc (.cells #[.slice ta tn tc, .slice vb vm vd] 26)) #[.int .i64 3, .string stb, .string snm, .slice co1 co2 co3, .slice none 0 0, .slice va1 va2 va3, .slice it1 it2 it3, .string sjn, .slice on1 on2 on3, .slice wh1 wh2 wh3, .slice od1 od2 od3, .bool sds, .slice (some ⟨ib, 0, none⟩) 1 1] 34 (0, 0) 6)
  have c7 := cell_later (bal (Below.refl _ _) (.cells #[.slice none 0 0, .slice none 0 0] 26)) (cell_new (w.alloc (.cells #[.slice ta tn tc, .slice vb vm vd] 26)) #[.int .i64 3, .string stb, .string snm, .slice co1 co2 co3, .slice none 0 0, .slice va1 va2 va3, .slice it1 it2 it3, .string sjn, .slice on1 on2 on3, .slice wh1 wh2 wh3, .slice od1 od2 od3, .bool sds, .slice (some ⟨ib, 0, none⟩) 1 1] 34 (0, 0) 7)
  have c8 := cell_later (bal (Below.refl _ _) (.cells #[.slice none 0 0, .slice none 0 0] 26)) (cell_new (w.alloc (.cells #[.slice ta tn tc, .slice vb vm vd] 26)) #[.int .i64 3, .string stb, .string snm, .slice co1 co2 co3, .slice none 0 0, .slice va1 va2 va3, .slice it1 it2 it3, .string sjn, .slice on1 on2 on3, .slice wh1 wh2 wh3, .slice od1 od2 od3, .bool sds, .slice (some ⟨ib, 0, none⟩) 1 1] 34 (0, 0) 8)
  have c9 := cell_later (bal (Below.refl _ _) (.cells #[.slice none 0 0, .slice none 0 0] 26)) (cell_new (w.alloc (.cells #[.slice ta tn tc, .slice vb vm vd] 26)) #[.int .i64 3, .string stb, .string snm, .slice co1 co2 co3, .slice none 0 0, .slice va1 va2 va3, .slice it1 it2 it3, .string sjn, .slice on1 on2 on3, .slice wh1 wh2 wh3, .slice od1 od2 od3, .bool sds, .slice (some ⟨ib, 0, none⟩) 1 1] 34 (0, 0) 9)
  have c10 := cell_later (bal (Below.refl _ _) (.cells #[.slice none 0 0, .slice none 0 0] 26)) (cell_new (w.alloc (.cells #[.slice ta tn tc, .slice vb vm vd] 26)) #[.int .i64 3, .string stb, .string snm, .slice co1 co2 co3, .slice none 0 0, .slice va1 va2 va3, .slice it1 it2 it3, .string sjn, .slice on1 on2 on3, .slice wh1 wh2 wh3, .slice od1 od2 od3, .bool sds, .slice (some ⟨ib, 0, none⟩) 1 1] 34 (0, 0) 10)
  have c11 := cell_later (bal (Below.refl _ _) (.cells #[.slice none 0 0, .slice none 0 0] 26)) (cell_new (w.alloc (.cells #[.slice ta tn tc, .slice vb vm vd] 26)) #[.int .i64 3, .string stb, .string snm, .slice co1 co2 co3, .slice none 0 0, .slice va1 va2 va3, .slice it1 it2 it3, .string sjn, .slice on1 on2 on3, .slice wh1 wh2 wh3, .slice od1 od2 od3, .bool sds, .slice (some ⟨ib, 0, none⟩) 1 1] 34 (0, 0) 11)
  have c12 := cell_later (bal (Below.refl _ _) (.cells #[.slice none 0 0, .slice none 0 0] 26)) (cell_new (w.alloc (.cells #[.slice ta tn tc, .slice vb vm vd] 26)) #[.int .i64 3, .string stb, .string snm, .slice co1 co2 co3, .slice none 0 0, .slice va1 va2 va3, .slice it1 it2 it3, .string sjn, .slice on1 on2 on3, .slice wh1 wh2 wh3, .slice od1 od2 od3, .bool sds, .slice (some ⟨ib, 0, none⟩) 1 1] 34 (0, 0) 12)
  have bx := Bk.new ((w.alloc (.cells #[.slice ta tn tc, .slice vb vm vd] 26)).alloc (.cells #[.int .i64 3, .string stb, .string snm, .slice co1 co2 co3, .slice none 0 0, .slice va1 va2 va3, .slice it1 it2 it3, .string sjn, .slice on1 on2 on3, .slice wh1 wh2 wh3, .slice od1 od2 od3, .bool sds, .slice (some ⟨ib, 0, none⟩) 1 1] 34)) (.cells #[.slice none 0 0, .slice none 0 0] 26)
  rw [World.size_alloc] at c0 c1 c2 c3 c4 c5 c6 c7 c8 c9 c10 c11 c12
  rw [World.size_alloc, World.size_alloc] at bx
  replace i0 := cell_later hw i0
  replace i1 := cell_later hw i1
  replace i2 := cell_later hw i2
  replace i3 := cell_later hw i3
  replace i4 := cell_later hw i4
  replace i5 := cell_later hw i5
  replace i6 := cell_later hw i6
  replace i7 := cell_later hw i7
  replace i8 := cell_later hw i8
  replace i9 := cell_later hw i9
  replace i10 := cell_later hw i10
  replace i11 := cell_later hw i11
  replace i12 := cell_later hw i12
  obtain ⟨G, hG⟩ : ∃ G, mayDoorP V0 snm = G := ⟨_, rfl⟩
  rw [hG] at H0 ⊢
  clear hG
  obtain ⟨S1, hS1⟩ : ∃ x, (if G = 0 then S else []) = x := ⟨_, rfl⟩
  obtain ⟨V1, hV1⟩ : ∃ x, (if G = 0 then V0 ++ [⟨snm, [], m⟩] else []) = x := ⟨_, rfl⟩
  rw [hS1, hV1]
  replace hS1 : Hid _ := hid hS1
  replace hV1 : Hid _ := hid hV1
  go_enter Try.func12, Try.ntmps12
  go_wp2_with fail
  refine Calls.mono H0.out ?_
  rintro e U0 ⟨rfl, hb⟩
  have hwU := Below.trans hw (hb.mono hw.size)
  have hUz : w.heap.size + 1 + 1 < U0.heap.size := by have := hb.size; simp at this; omega
  replace s0 := cell_later hb s0
  replace s1 := cell_later hb s1
  replace c0 := cell_later hb c0
  replace i0 := cell_later hb i0
  replace c1 := cell_later hb c1
  replace i1 := cell_later hb i1
  replace c2 := cell_later hb c2
  replace i2 := cell_later hb i2
  replace c3 := cell_later hb c3
  replace i3 := cell_later hb i3
  replace c4 := cell_later hb c4
  replace i4 := cell_later hb i4
  replace c5 := cell_later hb c5
  replace i5 := cell_later hb i5
  replace c6 := cell_later hb c6
  replace i6 := cell_later hb i6
  replace c7 := cell_later hb c7
  replace i7 := cell_later hb i7
  replace c8 := cell_later hb c8
  replace i8 := cell_later hb i8
  replace c9 := cell_later hb c9
  replace i9 := cell_later hb i9
  replace c10 := cell_later hb c10
  replace i10 := cell_later hb i10
  replace c11 := cell_later hb c11
  replace i11 := cell_later hb i11
  replace c12 := cell_later hb c12
  replace i12 := cell_later hb i12
  replace bx := bx.later hb
  generalize hz : w.heap.size + 1 + 1 = z at bx hUz ⊢
  have hzw : w.heap.size < z := by omega
  clear H0 hb hw
  by_cases hG0 : G = 0
  · subst hG0
    obtain rfl : S1 = S := by rw [← hS1.out, if_pos rfl]
    obtain rfl : V1 = V0 ++ [⟨snm, [], m⟩] := by rw [← hV1.out, if_pos rfl]
    clear hS1 hV1
    go_wp2_with fail
    refine Calls.mono (H4.out _) ?_
    rintro e U ⟨rfl, hb⟩
    replace hwU := Below.on hwU hb
    replace s0 := cell_later hb s0
    replace s1 := cell_later hb s1
    replace c2 := cell_later hb c2
    replace c12 := cell_later hb c12
    replace i0 := cell_later hb i0
    replace i1 := cell_later hb i1
    replace i2 := cell_later hb i2
    replace i3 := cell_later hb i3
    replace i4 := cell_later hb i4
    replace i5 := cell_later hb i5
    replace i6 := cell_later hb i6
    replace i7 := cell_later hb i7
    replace i8 := cell_later hb i8
    replace i9 := cell_later hb i9
    replace i10 := cell_later hb i10
    replace i11 := cell_later hb i11
    replace i12 := cell_later hb i12
    replace bx := bx.later hb
    have hzU := bx.lt
    have hwUs := hwU.size
    clear H4 hb hUz c0 c1 c3 c4 c5 c6 c7 c8 c9 c10 c11
    go_upto_region 5 with fail
    have hUd : Below U.heap.size U U.drew := (Below.refl _ _).drew
    have hUa : Below U.heap.size U ((U.alloc (.cells #[.string ⟨#[]⟩, .slice none 0 0, .int .i64 0, .string ⟨#[]⟩, .string ⟨#[]⟩, .slice none 0 0, .slice none 0 0, .slice none 0 0, .slice none 0 0, .string ⟨#[]⟩, .slice none 0 0, .slice none 0 0, .slice none 0 0, .bool false, .slice none 0 0] 68)).drew) := (bal (Below.refl _ U) _).drew
    have by5 : Bk ((U.alloc (.cells #[.string ⟨#[]⟩, .slice none 0 0, .int .i64 0, .string ⟨#[]⟩, .string ⟨#[]⟩, .slice none 0 0, .slice none 0 0, .slice none 0 0, .slice none 0 0, .string ⟨#[]⟩, .slice none 0 0, .slice none 0 0, .slice none 0 0, .bool false, .slice none 0 0] 68)).drew) U.heap.size (.cells #[.string ⟨#[]⟩, .slice none 0 0, .int .i64 0, .string ⟨#[]⟩, .string ⟨#[]⟩, .slice none 0 0, .slice none 0 0, .slice none 0 0, .slice none 0 0, .string ⟨#[]⟩, .slice none 0 0, .slice none 0 0, .slice none 0 0, .bool false, .slice none 0 0] 68) := ⟨(Bk.new U _).row⟩
    have hYs : ((U.alloc (.cells #[.string ⟨#[]⟩, .slice none 0 0, .int .i64 0, .string ⟨#[]⟩, .string ⟨#[]⟩, .slice none 0 0, .slice none 0 0, .slice none 0 0, .slice none 0 0, .string ⟨#[]⟩, .slice none 0 0, .slice none 0 0, .slice none 0 0, .bool false, .slice none 0 0] 68)).drew).heap.size = U.heap.size + 1 := by simp
    have kU : ∀ (b j : Nat) (v : Value), U.cell? ⟨b, j, none⟩ = some v → ((U.alloc (.cells #[.string ⟨#[]⟩, .slice none 0 0, .int .i64 0, .string ⟨#[]⟩, .string ⟨#[]⟩, .slice none 0 0, .slice none 0 0, .slice none 0 0, .slice none 0 0, .string ⟨#[]⟩, .slice none 0 0, .slice none 0 0, .slice none 0 0, .bool false, .slice none 0 0] 68)).drew).cell? ⟨b, j, none⟩ = some v := fun _ _ _ h => cell_later hUa h
    refine wp_region_held_drew (S := fun w' => w'.cell? ⟨w.heap.size + 1, 2, none⟩ = some (.string snm) ∧ w'.cell? ⟨w.heap.size + 1, 12, none⟩ = some (.slice (some ⟨ib, 0, none⟩) 1 1) ∧ w'.cell? ⟨ib, 0, none⟩ = some (.int .i64 6) ∧ w'.cell? ⟨ib, 1, none⟩ = some (.string ttb) ∧ w'.cell? ⟨ib, 2, none⟩ = some (.string tnm) ∧ w'.cell? ⟨ib, 3, none⟩ = some (.slice xco1 xco2 xco3) ∧ w'.cell? ⟨ib, 4, none⟩ = some (.slice xta1 xta2 xta3) ∧ w'.cell? ⟨ib, 5, none⟩ = some (.slice xva1 xva2 xva3) ∧ w'.cell? ⟨ib, 6, none⟩ = some (.slice xit1 xit2 xit3) ∧ w'.cell? ⟨ib, 7, none⟩ = some (.string tjn) ∧ w'.cell? ⟨ib, 8, none⟩ = some (.slice xon1 xon2 xon3) ∧ w'.cell? ⟨ib, 9, none⟩ = some (.slice xwh1 xwh2 xwh3) ∧ w'.cell? ⟨ib, 10, none⟩ = some (.slice xod1 xod2 xod3) ∧ w'.cell? ⟨ib, 11, none⟩ = some (.bool tds) ∧ w'.cell? ⟨ib, 12, none⟩ = some (.slice none 0 0)) (by kernel_rfl) (⟨cell_later hUd c2, cell_later hUd c12, cell_later hUd i0, cell_later hUd i1, cell_later hUd i2, cell_later hUd i3, cell_later hUd i4, cell_later hUd i5, cell_later hUd i6, cell_later hUd i7, cell_later hUd i8, cell_later hUd i9, cell_later hUd i10, cell_later hUd i11, cell_later hUd i12⟩) (fun hHeld => ?_)
    refine wpAnyH_take (i := 0) (v := ?tv62) rfl (by kernel_rfl) (by kernel_rfl) (by kernel_rfl) (fun _ _ _ h => h) (Or.inl ⟨by rfl, ?hy62⟩) (by assumption) ?rs62
    case hy62 => (intro w9 hSw; (try dsimp only at hSw); go_simp; (try with_reducible rfl))
    (try simp only [Act.put, List.getElem_toArray, List.getElem_cons_zero, List.getElem_cons_succ, List.setIfInBounds_toArray, List.set_cons_zero, List.set_cons_succ])
    refine wpAnyH_take (i := 1) (v := ?tv63) rfl (by kernel_rfl) (by kernel_rfl) (by kernel_rfl) (fun _ _ _ h => h) (Or.inl ⟨by rfl, ?hy63⟩) (by assumption) ?rs63
    case hy63 => (intro w9 hSw; (try dsimp only at hSw); go_simp; (try with_reducible rfl))
    (try simp only [Act.put, List.getElem_toArray, List.getElem_cons_zero, List.getElem_cons_succ, List.setIfInBounds_toArray, List.set_cons_zero, List.set_cons_succ])
    refine wpAnyH_take (i := 2) (v := ?tv64) rfl (by kernel_rfl) (by kernel_rfl) (by kernel_rfl) (fun _ _ _ h => h) (Or.inl ⟨by rfl, ?hy64⟩) (by assumption) ?rs64
    case hy64 => (intro w9 hSw; (try dsimp only at hSw); go_simp; (try with_reducible rfl))
    (try simp only [Act.put, List.getElem_toArray, List.getElem_cons_zero, List.getElem_cons_succ, List.setIfInBounds_toArray, List.set_cons_zero, List.set_cons_succ])
    refine wpAnyH_take (i := 3) (v := ?tv65) rfl (by kernel_rfl) (by kernel_rfl) (by kernel_rfl) (fun _ _ _ h => h) (Or.inl ⟨by rfl, ?hy65⟩) (by assumption) ?rs65
    case hy65 => (intro w9 hSw; (try dsimp only at hSw); go_simp; (try with_reducible rfl))
    (try simp only [Act.put, List.getElem_toArray, List.getElem_cons_zero, List.getElem_cons_succ, List.setIfInBounds_toArray, List.set_cons_zero, List.set_cons_succ])
    refine wpAnyH_take (i := 4) (v := ?tv66) rfl (by kernel_rfl) (by kernel_rfl) (by kernel_rfl) (fun _ _ _ h => h) (Or.inl ⟨by rfl, ?hy66⟩) (by assumption) ?rs66
    case hy66 => (intro w9 hSw; (try dsimp only at hSw); go_simp; (try with_reducible rfl))
    (try simp only [Act.put, List.getElem_toArray, List.getElem_cons_zero, List.getElem_cons_succ, List.setIfInBounds_toArray, List.set_cons_zero, List.set_cons_succ])
    refine wpAnyH_take (i := 5) (v := ?tv67) rfl (by kernel_rfl) (by kernel_rfl) (by kernel_rfl) (fun _ _ _ h => h) (Or.inl ⟨by rfl, ?hy67⟩) (by assumption) ?rs67
    case hy67 => (intro w9 hSw; (try dsimp only at hSw); go_simp; (try with_reducible rfl))
    (try simp only [Act.put, List.getElem_toArray, List.getElem_cons_zero, List.getElem_cons_succ, List.setIfInBounds_toArray, List.set_cons_zero, List.set_cons_succ])
    refine wpAnyH_take (i := 6) (v := ?tv68) rfl (by kernel_rfl) (by kernel_rfl) (by kernel_rfl) (fun _ _ _ h => h) (Or.inl ⟨by rfl, ?hy68⟩) (by assumption) ?rs68
    case hy68 => (intro w9 hSw; (try dsimp only at hSw); go_simp; (try with_reducible rfl))
    (try simp only [Act.put, List.getElem_toArray, List.getElem_cons_zero, List.getElem_cons_succ, List.setIfInBounds_toArray, List.set_cons_zero, List.set_cons_succ])
    refine wpAnyH_take (i := 7) (v := ?tv69) rfl (by kernel_rfl) (by kernel_rfl) (by kernel_rfl) (fun _ _ _ h => h) (Or.inl ⟨by rfl, ?hy69⟩) (by assumption) ?rs69
    case hy69 => (intro w9 hSw; (try dsimp only at hSw); go_simp; (try with_reducible rfl))
    (try simp only [Act.put, List.getElem_toArray, List.getElem_cons_zero, List.getElem_cons_succ, List.setIfInBounds_toArray, List.set_cons_zero, List.set_cons_succ])
    refine wpAnyH_ready (rs := [8]) (by kernel_rfl) (by simp) ?_
    refine AllReadyH.cons rfl (fun K hK => ?_) AllReadyH.nil
    go_simp
    refine hK.out _ _ (⟨cell_later hUa c2, cell_later hUa c12, cell_later hUa i0, cell_later hUa i1, cell_later hUa i2, cell_later hUa i3, cell_later hUa i4, cell_later hUa i5, cell_later hUa i6, cell_later hUa i7, cell_later hUa i8, cell_later hUa i9, cell_later hUa i10, cell_later hUa i11, cell_later hUa i12⟩) (fun hHeld => ?_)
    clear hK K
    (try simp only [Act.put, List.getElem_toArray, List.getElem_cons_zero, List.getElem_cons_succ, List.setIfInBounds_toArray, List.set_cons_zero, List.set_cons_succ])
    generalize (U.alloc (.cells #[.string ⟨#[]⟩, .slice none 0 0, .int .i64 0, .string ⟨#[]⟩, .string ⟨#[]⟩, .slice none 0 0, .slice none 0 0, .slice none 0 0, .slice none 0 0, .string ⟨#[]⟩, .slice none 0 0, .slice none 0 0, .slice none 0 0, .bool false, .slice none 0 0] 68)).drew = Y at *
    generalize hnb : U.heap.size = nb at *
    refine wpAnyH_ready (rs := [9]) (by kernel_rfl) (by simp) ?_
    refine AllReadyH.cons rfl (fun K hK => ?_) AllReadyH.nil
    have hth : Y.there nb 0 15 := by5.there rfl
    rw [if_pos (by rfl)]
    refine wp_store_mid _ _ _ rfl nb 0 (List.toArray [.string snm, .slice none 0 0, .int .i64 6, .string ttb, .string tnm, .slice xco1 xco2 xco3, .slice xta1 xta2 xta3, .slice xva1 xva2 xva3, .slice xit1 xit2 xit3, .string tjn, .slice xon1 xon2 xon3, .slice xwh1 xwh2 xwh3, .slice xod1 xod2 xod3, .bool tds, .slice none 0 0]) rfl rfl hth (by kernel_rfl) (by simp [Value.oneCell']) ?_
    show K _ (stW Y nb [.string snm, .slice none 0 0, .int .i64 6, .string ttb, .string tnm, .slice xco1 xco2 xco3, .slice xta1 xta2 xta3, .slice xva1 xva2 xva3, .slice xit1 xit2 xit3, .string tjn, .slice xon1 xon2 xon3, .slice xwh1 xwh2 xwh3, .slice xod1 xod2 xod3, .bool tds, .slice none 0 0])
    refine hK.out _ _ (⟨stW_far (by omega) (kU _ _ _ c2), stW_far (by omega) (kU _ _ _ c12), stW_far (by omega) (kU _ _ _ i0), stW_far (by omega) (kU _ _ _ i1), stW_far (by omega) (kU _ _ _ i2), stW_far (by omega) (kU _ _ _ i3), stW_far (by omega) (kU _ _ _ i4), stW_far (by omega) (kU _ _ _ i5), stW_far (by omega) (kU _ _ _ i6), stW_far (by omega) (kU _ _ _ i7), stW_far (by omega) (kU _ _ _ i8), stW_far (by omega) (kU _ _ _ i9), stW_far (by omega) (kU _ _ _ i10), stW_far (by omega) (kU _ _ _ i11), stW_far (by omega) (kU _ _ _ i12)⟩) (fun hHeld => ?_)
    clear hK K
    (try simp only [Act.put, List.getElem_toArray, List.getElem_cons_zero, List.getElem_cons_succ, List.setIfInBounds_toArray, List.set_cons_zero, List.set_cons_succ])
    refine wpAnyH_done (by kernel_rfl) ?_ _
    have v0 := stW_cell (l := [.string snm, .slice none 0 0, .int .i64 6, .string ttb, .string tnm, .slice xco1 xco2 xco3, .slice xta1 xta2 xta3, .slice xva1 xva2 xva3, .slice xit1 xit2 xit3, .string tjn, .slice xon1 xon2 xon3, .slice xwh1 xwh2 xwh3, .slice xod1 xod2 xod3, .bool tds, .slice none 0 0]) hth (j := 0) rfl
    have v1 := stW_cell (l := [.string snm, .slice none 0 0, .int .i64 6, .string ttb, .string tnm, .slice xco1 xco2 xco3, .slice xta1 xta2 xta3, .slice xva1 xva2 xva3, .slice xit1 xit2 xit3, .string tjn, .slice xon1 xon2 xon3, .slice xwh1 xwh2 xwh3, .slice xod1 xod2 xod3, .bool tds, .slice none 0 0]) hth (j := 1) rfl
    have v2 := stW_cell (l := [.string snm, .slice none 0 0, .int .i64 6, .string ttb, .string tnm, .slice xco1 xco2 xco3, .slice xta1 xta2 xta3, .slice xva1 xva2 xva3, .slice xit1 xit2 xit3, .string tjn, .slice xon1 xon2 xon3, .slice xwh1 xwh2 xwh3, .slice xod1 xod2 xod3, .bool tds, .slice none 0 0]) hth (j := 2) rfl
    have v3 := stW_cell (l := [.string snm, .slice none 0 0, .int .i64 6, .string ttb, .string tnm, .slice xco1 xco2 xco3, .slice xta1 xta2 xta3, .slice xva1 xva2 xva3, .slice xit1 xit2 xit3, .string tjn, .slice xon1 xon2 xon3, .slice xwh1 xwh2 xwh3, .slice xod1 xod2 xod3, .bool tds, .slice none 0 0]) hth (j := 3) rfl
    have v4 := stW_cell (l := [.string snm, .slice none 0 0, .int .i64 6, .string ttb, .string tnm, .slice xco1 xco2 xco3, .slice xta1 xta2 xta3, .slice xva1 xva2 xva3, .slice xit1 xit2 xit3, .string tjn, .slice xon1 xon2 xon3, .slice xwh1 xwh2 xwh3, .slice xod1 xod2 xod3, .bool tds, .slice none 0 0]) hth (j := 4) rfl
    have v5 := stW_cell (l := [.string snm, .slice none 0 0, .int .i64 6, .string ttb, .string tnm, .slice xco1 xco2 xco3, .slice xta1 xta2 xta3, .slice xva1 xva2 xva3, .slice xit1 xit2 xit3, .string tjn, .slice xon1 xon2 xon3, .slice xwh1 xwh2 xwh3, .slice xod1 xod2 xod3, .bool tds, .slice none 0 0]) hth (j := 5) rfl
    have v6 := stW_cell (l := [.string snm, .slice none 0 0, .int .i64 6, .string ttb, .string tnm, .slice xco1 xco2 xco3, .slice xta1 xta2 xta3, .slice xva1 xva2 xva3, .slice xit1 xit2 xit3, .string tjn, .slice xon1 xon2 xon3, .slice xwh1 xwh2 xwh3, .slice xod1 xod2 xod3, .bool tds, .slice none 0 0]) hth (j := 6) rfl
    have v7 := stW_cell (l := [.string snm, .slice none 0 0, .int .i64 6, .string ttb, .string tnm, .slice xco1 xco2 xco3, .slice xta1 xta2 xta3, .slice xva1 xva2 xva3, .slice xit1 xit2 xit3, .string tjn, .slice xon1 xon2 xon3, .slice xwh1 xwh2 xwh3, .slice xod1 xod2 xod3, .bool tds, .slice none 0 0]) hth (j := 7) rfl
    have v8 := stW_cell (l := [.string snm, .slice none 0 0, .int .i64 6, .string ttb, .string tnm, .slice xco1 xco2 xco3, .slice xta1 xta2 xta3, .slice xva1 xva2 xva3, .slice xit1 xit2 xit3, .string tjn, .slice xon1 xon2 xon3, .slice xwh1 xwh2 xwh3, .slice xod1 xod2 xod3, .bool tds, .slice none 0 0]) hth (j := 8) rfl
    have v9 := stW_cell (l := [.string snm, .slice none 0 0, .int .i64 6, .string ttb, .string tnm, .slice xco1 xco2 xco3, .slice xta1 xta2 xta3, .slice xva1 xva2 xva3, .slice xit1 xit2 xit3, .string tjn, .slice xon1 xon2 xon3, .slice xwh1 xwh2 xwh3, .slice xod1 xod2 xod3, .bool tds, .slice none 0 0]) hth (j := 9) rfl
    have v10 := stW_cell (l := [.string snm, .slice none 0 0, .int .i64 6, .string ttb, .string tnm, .slice xco1 xco2 xco3, .slice xta1 xta2 xta3, .slice xva1 xva2 xva3, .slice xit1 xit2 xit3, .string tjn, .slice xon1 xon2 xon3, .slice xwh1 xwh2 xwh3, .slice xod1 xod2 xod3, .bool tds, .slice none 0 0]) hth (j := 10) rfl
    have v11 := stW_cell (l := [.string snm, .slice none 0 0, .int .i64 6, .string ttb, .string tnm, .slice xco1 xco2 xco3, .slice xta1 xta2 xta3, .slice xva1 xva2 xva3, .slice xit1 xit2 xit3, .string tjn, .slice xon1 xon2 xon3, .slice xwh1 xwh2 xwh3, .slice xod1 xod2 xod3, .bool tds, .slice none 0 0]) hth (j := 11) rfl
    have v12 := stW_cell (l := [.string snm, .slice none 0 0, .int .i64 6, .string ttb, .string tnm, .slice xco1 xco2 xco3, .slice xta1 xta2 xta3, .slice xva1 xva2 xva3, .slice xit1 xit2 xit3, .string tjn, .slice xon1 xon2 xon3, .slice xwh1 xwh2 xwh3, .slice xod1 xod2 xod3, .bool tds, .slice none 0 0]) hth (j := 12) rfl
    have v13 := stW_cell (l := [.string snm, .slice none 0 0, .int .i64 6, .string ttb, .string tnm, .slice xco1 xco2 xco3, .slice xta1 xta2 xta3, .slice xva1 xva2 xva3, .slice xit1 xit2 xit3, .string tjn, .slice xon1 xon2 xon3, .slice xwh1 xwh2 xwh3, .slice xod1 xod2 xod3, .bool tds, .slice none 0 0]) hth (j := 13) rfl
    have v14 := stW_cell (l := [.string snm, .slice none 0 0, .int .i64 6, .string ttb, .string tnm, .slice xco1 xco2 xco3, .slice xta1 xta2 xta3, .slice xva1 xva2 xva3, .slice xit1 xit2 xit3, .string tjn, .slice xon1 xon2 xon3, .slice xwh1 xwh2 xwh3, .slice xod1 xod2 xod3, .bool tds, .slice none 0 0]) hth (j := 14) rfl
    have hY1 : Below nb U (stW Y nb [.string snm, .slice none 0 0, .int .i64 6, .string ttb, .string tnm, .slice xco1 xco2 xco3, .slice xta1 xta2 xta3, .slice xva1 xva2 xva3, .slice xit1 xit2 xit3, .string tjn, .slice xon1 xon2 xon3, .slice xwh1 xwh2 xwh3, .slice xod1 xod2 xod3, .bool tds, .slice none 0 0]) := stW_below hUa (by omega)
    have hYs1 : (stW Y nb [.string snm, .slice none 0 0, .int .i64 6, .string ttb, .string tnm, .slice xco1 xco2 xco3, .slice xta1 xta2 xta3, .slice xva1 xva2 xva3, .slice xit1 xit2 xit3, .string tjn, .slice xon1 xon2 xon3, .slice xwh1 xwh2 xwh3, .slice xod1 xod2 xod3, .bool tds, .slice none 0 0]).heap.size = nb + 1 := by
      have : ∀ (l : List Value) (o : Nat) (w : World), (w.setCells nb o l).heap.size = w.heap.size := by
        intro l
        induction l with
        | nil => intro o w; rfl
        | cons v r ih => intro o w; rw [World.setCells, ih]; simp [World.setCell]
      rw [stW, this, hYs]
    have hY2 : Below U.heap.size U (stW Y nb [.string snm, .slice none 0 0, .int .i64 6, .string ttb, .string tnm, .slice xco1 xco2 xco3, .slice xta1 xta2 xta3, .slice xva1 xva2 xva3, .slice xit1 xit2 xit3, .string tjn, .slice xon1 xon2 xon3, .slice xwh1 xwh2 xwh3, .slice xod1 xod2 xod3, .bool tds, .slice none 0 0]) := by rw [hnb]; exact hY1
    replace s0 := cell_later hY2 s0
    replace s1 := cell_later hY2 s1
    replace bx := bx.later hY2
    clear hY2
    have hWV : Below w.heap.size w (stW Y nb [.string snm, .slice none 0 0, .int .i64 6, .string ttb, .string tnm, .slice xco1 xco2 xco3, .slice xta1 xta2 xta3, .slice xva1 xva2 xva3, .slice xit1 xit2 xit3, .string tjn, .slice xon1 xon2 xon3, .slice xwh1 xwh2 xwh3, .slice xod1 xod2 xod3, .bool tds, .slice none 0 0]) := Below.trans hwU (hY1.mono hwUs)
    clear hth hHeld by5 hUa hUd hYs kU c2 c12 hibw i0 i1 i2 i3 i4 i5 i6 i7 i8 i9 i10 i11 i12
    go_upto_region 6 with fail
    generalize stW Y nb [.string snm, .slice none 0 0, .int .i64 6, .string ttb, .string tnm, .slice xco1 xco2 xco3, .slice xta1 xta2 xta3, .slice xva1 xva2 xva3, .slice xit1 xit2 xit3, .string tjn, .slice xon1 xon2 xon3, .slice xwh1 xwh2 xwh3, .slice xod1 xod2 xod3, .bool tds, .slice none 0 0] = V at *
    have hY : Below V.heap.size V V.drew := (Below.refl _ _).drew
    replace bx := bx.later hY
    have hzV : z < V.heap.size := by omega
    have hnz : nb ≠ z := by omega
    have hnw : w.heap.size ≤ nb := by omega
    have hwz : w.heap.size ≠ z := by omega
    clear hYs1 hnb hz hzU hY1
    refine wp_region_held_drew (S := fun w' => w'.cell? ⟨w.heap.size, 0, none⟩ = some (.slice ta tn tc) ∧ w'.cell? ⟨w.heap.size, 1, none⟩ = some (.slice vb vm vd) ∧ w'.cell? ⟨nb, 0, none⟩ = some (.string snm) ∧ w'.cell? ⟨nb, 1, none⟩ = some (.slice none 0 0) ∧ w'.cell? ⟨nb, 2, none⟩ = some (.int .i64 6) ∧ w'.cell? ⟨nb, 3, none⟩ = some (.string ttb) ∧ w'.cell? ⟨nb, 4, none⟩ = some (.string tnm) ∧ w'.cell? ⟨nb, 5, none⟩ = some (.slice xco1 xco2 xco3) ∧ w'.cell? ⟨nb, 6, none⟩ = some (.slice xta1 xta2 xta3) ∧ w'.cell? ⟨nb, 7, none⟩ = some (.slice xva1 xva2 xva3) ∧ w'.cell? ⟨nb, 8, none⟩ = some (.slice xit1 xit2 xit3) ∧ w'.cell? ⟨nb, 9, none⟩ = some (.string tjn) ∧ w'.cell? ⟨nb, 10, none⟩ = some (.slice xon1 xon2 xon3) ∧ w'.cell? ⟨nb, 11, none⟩ = some (.slice xwh1 xwh2 xwh3) ∧ w'.cell? ⟨nb, 12, none⟩ = some (.slice xod1 xod2 xod3) ∧ w'.cell? ⟨nb, 13, none⟩ = some (.bool tds) ∧ w'.cell? ⟨nb, 14, none⟩ = some (.slice none 0 0)) (by kernel_rfl) (⟨cell_later hY s0, cell_later hY s1, cell_later hY v0, cell_later hY v1, cell_later hY v2, cell_later hY v3, cell_later hY v4, cell_later hY v5, cell_later hY v6, cell_later hY v7, cell_later hY v8, cell_later hY v9, cell_later hY v10, cell_later hY v11, cell_later hY v12, cell_later hY v13, cell_later hY v14⟩) (fun hHeld => ?_)
    refine wpAnyH_take (i := 0) (v := ?tv70) rfl (by kernel_rfl) (by kernel_rfl) (by kernel_rfl) (fun _ _ _ h => h) (Or.inl ⟨by rfl, ?hy70⟩) (by assumption) ?rs70
    case hy70 => (intro w9 hSw; (try dsimp only at hSw); go_simp; (try with_reducible rfl))
    (try simp only [Act.put, List.getElem_toArray, List.getElem_cons_zero, List.getElem_cons_succ, List.setIfInBounds_toArray, List.set_cons_zero, List.set_cons_succ])
    refine wpAnyH_take (i := 1) (v := ?tv71) rfl (by kernel_rfl) (by kernel_rfl) (by kernel_rfl) (fun _ _ _ h => h) (Or.inl ⟨by rfl, ?hy71⟩) (by assumption) ?rs71
    case hy71 => (intro w9 hSw; (try dsimp only at hSw); go_simp; (try with_reducible rfl))
    (try simp only [Act.put, List.getElem_toArray, List.getElem_cons_zero, List.getElem_cons_succ, List.setIfInBounds_toArray, List.set_cons_zero, List.set_cons_succ])
    refine wpAnyH_take (i := 3) (v := ?tv72) rfl (by kernel_rfl) (by kernel_rfl) (by kernel_rfl) (fun _ _ _ h => h) (Or.inl ⟨by rfl, ?hy72⟩) (by assumption) ?rs72
    case hy72 => (intro w9 hSw; (try dsimp only at hSw); go_simp; (try with_reducible rfl))
    (try simp only [Act.put, List.getElem_toArray, List.getElem_cons_zero, List.getElem_cons_succ, List.setIfInBounds_toArray, List.set_cons_zero, List.set_cons_succ])
    refine wpAnyH_take (i := 5) (v := ?tv73) rfl (by kernel_rfl) (by kernel_rfl) (by kernel_rfl) (fun _ _ _ h => h) (Or.inl ⟨by rfl, ?hy73⟩) (by assumption) ?rs73
    case hy73 => (intro w9 hSw; (try dsimp only at hSw); go_simp; (try with_reducible rfl))
    (try simp only [Act.put, List.getElem_toArray, List.getElem_cons_zero, List.getElem_cons_succ, List.setIfInBounds_toArray, List.set_cons_zero, List.set_cons_succ])
    refine wpAnyH_ready (rs := [2]) (by kernel_rfl) (by simp) ?_
    refine AllReadyH.cons rfl (fun K hK => ?_) AllReadyH.nil
    go_simp
    go_wp2_with (first | (go_at_call 27; (refine Calls.mono (H5.out _ (Below.trans hWV (hY.mono hWV.size))) ?_); rintro e y ⟨a1, m1, d1, rfl, r1, hby⟩; replace bx := bx.later hby; replace r1 := r1.mono (by decide) (Q' := fun b => V.heap.size ≤ b) (fun b hb _ => (by have h1 := hY.size; have h3 : _ ≤ b := hb; show V.heap.size ≤ b; omega)); replace hY := Below.on hY hby))
    refine hK.out _ _ (⟨cell_later hY s0, cell_later hY s1, cell_later hY v0, cell_later hY v1, cell_later hY v2, cell_later hY v3, cell_later hY v4, cell_later hY v5, cell_later hY v6, cell_later hY v7, cell_later hY v8, cell_later hY v9, cell_later hY v10, cell_later hY v11, cell_later hY v12, cell_later hY v13, cell_later hY v14⟩) (fun hHeld => ?_)
    clear hK K
    (try simp only [Act.put, List.getElem_toArray, List.getElem_cons_zero, List.getElem_cons_succ, List.setIfInBounds_toArray, List.set_cons_zero, List.set_cons_succ])
    refine wpAnyH_ready (rs := [4]) (by kernel_rfl) (by simp) ?_
    refine AllReadyH.cons rfl (fun K hK => ?_) AllReadyH.nil
    go_simp
    go_wp2_with (first | (go_at_call 29; (refine Calls.mono (H6.out _) ?_); rintro e y ⟨rfl, hby⟩; replace bx := bx.later hby; replace r1 := r1.keep (by decide) (fun b _ hl => hby.block b hl); replace hY := Below.on hY hby))
    refine hK.out _ _ (⟨cell_later hY s0, cell_later hY s1, cell_later hY v0, cell_later hY v1, cell_later hY v2, cell_later hY v3, cell_later hY v4, cell_later hY v5, cell_later hY v6, cell_later hY v7, cell_later hY v8, cell_later hY v9, cell_later hY v10, cell_later hY v11, cell_later hY v12, cell_later hY v13, cell_later hY v14⟩) (fun hHeld => ?_)
    clear hK K
    (try simp only [Act.put, List.getElem_toArray, List.getElem_cons_zero, List.getElem_cons_succ, List.setIfInBounds_toArray, List.set_cons_zero, List.set_cons_succ])
    refine wpAnyH_ready (rs := [6]) (by kernel_rfl) (by simp) ?_
    refine AllReadyH.cons rfl (fun K hK => ?_) AllReadyH.nil
    go_simp
    go_wp2_with (first | (go_at_call 30; (refine Calls.mono (H7.out _ (Below.trans hWV (hY.mono hWV.size))) ?_); rintro e y ⟨a2, m2, d2, rfl, r2, hby⟩; replace bx := bx.later hby; replace r2 := r2.mono (by decide) (Q' := fun b => V.heap.size ≤ b) (fun b hb _ => (by have h1 := hY.size; have h3 : _ ≤ b := hb; show V.heap.size ≤ b; omega)); replace r1 := r1.keep (by decide) (fun b _ hl => hby.block b hl); replace hY := Below.on hY hby))
    refine hK.out _ _ (⟨cell_later hY s0, cell_later hY s1, cell_later hY v0, cell_later hY v1, cell_later hY v2, cell_later hY v3, cell_later hY v4, cell_later hY v5, cell_later hY v6, cell_later hY v7, cell_later hY v8, cell_later hY v9, cell_later hY v10, cell_later hY v11, cell_later hY v12, cell_later hY v13, cell_later hY v14⟩) (fun hHeld => ?_)
    clear hK K
    (try simp only [Act.put, List.getElem_toArray, List.getElem_cons_zero, List.getElem_cons_succ, List.setIfInBounds_toArray, List.set_cons_zero, List.set_cons_succ])
    refine wpAnyH_take (i := 7) (v := ?tv74) rfl (by kernel_rfl) (by kernel_rfl) (by kernel_rfl) (fun _ _ _ h => h) (Or.inl ⟨by rfl, ?hy74⟩) (by assumption) ?rs74
    case hy74 => (intro w9 hSw; (try dsimp only at hSw); go_simp; (try with_reducible rfl))
    (try simp only [Act.put, List.getElem_toArray, List.getElem_cons_zero, List.getElem_cons_succ, List.setIfInBounds_toArray, List.set_cons_zero, List.set_cons_succ])
    refine wpAnyH_ready (rs := [8]) (by kernel_rfl) (by simp) ?_
    refine AllReadyH.cons rfl (fun K hK => ?_) AllReadyH.nil
    have hth : y.there z 0 2 := bx.there rfl
    have z0 := stW_cell (l := [.slice a1 m1 d1, .slice a2 m2 d2]) hth (j := 0) rfl
    have z1 := stW_cell (l := [.slice a1 m1 d1, .slice a2 m2 d2]) hth (j := 1) rfl
    rw [if_pos (by rfl)]
    refine wp_store_mid _ _ _ rfl z 0 (List.toArray [.slice a1 m1 d1, .slice a2 m2 d2]) rfl rfl hth (by kernel_rfl) (by simp [Value.oneCell']) ?_
    show K _ (stW y z [.slice a1 m1 d1, .slice a2 m2 d2])
    refine hK.out _ _ (⟨stW_far (by omega) (cell_later hY s0), stW_far (by omega) (cell_later hY s1), stW_far (by omega) (cell_later hY v0), stW_far (by omega) (cell_later hY v1), stW_far (by omega) (cell_later hY v2), stW_far (by omega) (cell_later hY v3), stW_far (by omega) (cell_later hY v4), stW_far (by omega) (cell_later hY v5), stW_far (by omega) (cell_later hY v6), stW_far (by omega) (cell_later hY v7), stW_far (by omega) (cell_later hY v8), stW_far (by omega) (cell_later hY v9), stW_far (by omega) (cell_later hY v10), stW_far (by omega) (cell_later hY v11), stW_far (by omega) (cell_later hY v12), stW_far (by omega) (cell_later hY v13), stW_far (by omega) (cell_later hY v14)⟩) (fun hHeld => ?_)
    clear hK K hth
    (try simp only [Act.put, List.getElem_toArray, List.getElem_cons_zero, List.getElem_cons_succ, List.setIfInBounds_toArray, List.set_cons_zero, List.set_cons_succ])
    refine wpAnyH_ready (rs := [9]) (by kernel_rfl) (by simp) ?_
    refine AllReadyH.cons rfl (fun K hK => ?_) AllReadyH.nil
    go_simp
    refine hK.out _ _ (⟨stW_far (by omega) (cell_later hY s0), stW_far (by omega) (cell_later hY s1), stW_far (by omega) (cell_later hY v0), stW_far (by omega) (cell_later hY v1), stW_far (by omega) (cell_later hY v2), stW_far (by omega) (cell_later hY v3), stW_far (by omega) (cell_later hY v4), stW_far (by omega) (cell_later hY v5), stW_far (by omega) (cell_later hY v6), stW_far (by omega) (cell_later hY v7), stW_far (by omega) (cell_later hY v8), stW_far (by omega) (cell_later hY v9), stW_far (by omega) (cell_later hY v10), stW_far (by omega) (cell_later hY v11), stW_far (by omega) (cell_later hY v12), stW_far (by omega) (cell_later hY v13), stW_far (by omega) (cell_later hY v14)⟩) (fun hHeld => ?_)
    clear hK K
    (try simp only [Act.put, List.getElem_toArray, List.getElem_cons_zero, List.getElem_cons_succ, List.setIfInBounds_toArray, List.set_cons_zero, List.set_cons_succ])
    refine wpAnyH_done (by kernel_rfl) ?_ _
    have hW := Below.trans hWV (hY.mono hWV.size)
    have q1 : RowIs eTbl (fun b => w.heap.size ≤ b) (stW y z [.slice a1 m1 d1, .slice a2 m2 d2]) (.slice a1 m1 d1) S1 := (r1.keep (by decide) fun b hb _ => by have hb' : V.heap.size ≤ b := hb; exact stW_heap (by omega)).mono (by decide) fun b hb _ => by have hb' : V.heap.size ≤ b := hb; have := hWV.size; show w.heap.size ≤ b; omega
    have q2 : RowIs eVw (fun b => w.heap.size ≤ b) (stW y z [.slice a1 m1 d1, .slice a2 m2 d2]) (.slice a2 m2 d2) (V0 ++ [⟨snm, [], m⟩]) := (r2.keep (by decide) fun b hb _ => by have hb' : V.heap.size ≤ b := hb; exact stW_heap (by omega)).mono (by decide) fun b hb _ => by have hb' : V.heap.size ≤ b := hb; have := hWV.size; show w.heap.size ≤ b; omega
    have hWs : Below w.heap.size w (stW y z [.slice a1 m1 d1, .slice a2 m2 d2]) := stW_below hW (by omega)
    clear hHeld hY bx r1 r2 H5 H6 H7
    go_wp2
    exact bodyPost_ret (v := .tuple #[.agg #[.slice a1 m1 d1, .slice a2 m2 d2], .int .i64 0]) (by simp [results, Try.results12, go_sem, z0, z1]) rfl ⟨_, _, _, _, _, _, rfl, q1, q2, hWs⟩
  · obtain rfl : S1 = [] := by rw [← hS1.out, if_neg hG0]
    obtain rfl : V1 = [] := by rw [← hV1.out, if_neg hG0]
    clear hS1 hV1
    have hGb : (G == 0) = false := by simpa using hG0
    have z0 := bx.cell 0
    have z1 := bx.cell 1
    have f0 := bx.free 0
    have f1 := bx.free 1
    simp only [List.getElem?_toArray, List.getElem?_cons_zero, List.getElem?_cons_succ] at z0 z1
    clear H4 H5 H6 H7 s0 s1 bx c0 i0 c1 i1 c2 i2 c3 i3 c4 i4 c5 i5 c6 i6 c7 i7 c8 i8 c9 i9 c10 i10 c11 i11 c12 i12
    go_wp2
    exact bodyPost_ret (v := .tuple #[.agg #[.slice none 0 0, .slice none 0 0], .int .i64 G]) (by simp [results, Try.results12, go_sem, z0, z1]) rfl ⟨_, _, _, _, _, _, rfl, RowIs.nil _ _ _, RowIs.nil _ _ _, (hwU.setCell (by show w.heap.size ≤ z; omega) _).setCell (by show w.heap.size ≤ z; omega) _⟩

end Go.Proofs.Ytnboooaockgoiab
/- Add: a view of no tags. -/
namespace Go.Proofs.Ytnboooaockgoiab
open Go.RowKit
set_option linter.unusedVariables false
set_option linter.unusedSimpArgs false

set_option maxRecDepth 100000 in
set_option maxHeartbeats 4000000 in
theorem addVw_any {S : List Tbl} {V0 : List Vw} (hSB : AllB TblB S) (hVB : AllB VwB V0) (hV4 : V0.length ≤ 400) {w : World} {ta : Option Addr} {tn tc : Nat} (hS : RowIs eTbl (fun _ => True) w (.slice ta tn tc) S) {vb : Option Addr} {vm vd : Nat} (hV : RowIs eVw (fun _ => True) w (.slice vb vm vd) V0) (stb : ByteArray) {snm : ByteArray} (hnB : StrB snm) (co1 : Option Addr) (co2 co3 : Nat) (va1 : Option Addr) (va2 va3 : Nat) (it1 : Option Addr) (it2 it3 : Nat) (sjn : ByteArray) (on1 : Option Addr) (on2 on3 : Nat) (wh1 : Option Addr) (wh2 wh3 : Nat) (od1 : Option Addr) (od2 od3 : Nat) (sds : Bool) {ib : Nat} {m : Sm} (hmB : SmB m) (hmk : m.kind = 6) {s : Sv} (hI : IsS (fun _ => True) w m s) (hin : s.inn = (none, 0, 0)) (hcs : ∀ j (hj : j < (svC s).length), w.cell? ⟨ib, j, none⟩ = some (svC s)[j]) :
    Calls Try.prog 6 #[.agg #[.slice ta tn tc, .slice vb vm vd], .agg #[.int .i64 3, .string stb, .string snm, .slice co1 co2 co3, .slice none 0 0, .slice va1 va2 va3, .slice it1 it2 it3, .string sjn, .slice on1 on2 on3, .slice wh1 wh2 wh3, .slice od1 od2 od3, .bool sds, .slice (some ⟨ib, 0, none⟩) 1 1], .slice none 0 0] w (TeA w (if mayDoorP V0 snm = 0 then S else []) (if mayDoorP V0 snm = 0 then V0 ++ [⟨snm, [], m⟩] else []) (mayDoorP V0 snm)) := by
  have hw : Below w.heap.size w (((w.alloc (.cells #[.slice ta tn tc, .slice vb vm vd] 26)).alloc (.cells #[.int .i64 3, .string stb, .string snm, .slice co1 co2 co3, .slice none 0 0, .slice va1 va2 va3, .slice it1 it2 it3, .string sjn, .slice on1 on2 on3, .slice wh1 wh2 wh3, .slice od1 od2 od3, .bool sds, .slice (some ⟨ib, 0, none⟩) 1 1] 34)).alloc (.cells #[.slice none 0 0, .slice none 0 0] 26)) := bal (bal (bal (Below.refl _ _) _) _) _
  have H0 := addDoor_nil hSB hVB hV4 (hS.keep (by decide) fun b _ hl => hw.block b hl) (hV.keep (by decide) fun b _ hl => hw.block b hl) stb hnB co1 co2 co3 va1 va2 va3 it1 it2 it3 sjn on1 on2 on3 wh1 wh2 wh3 od1 od2 od3 sds hmB hmk (hI.keep fun b _ hl => hw.block b hl) hin (fun j hj => cell_later hw (hcs j hj))
  have bx := Bk.new ((w.alloc (.cells #[.slice ta tn tc, .slice vb vm vd] 26)).alloc (.cells #[.int .i64 3, .string stb, .string snm, .slice co1 co2 co3, .slice none 0 0, .slice va1 va2 va3, .slice it1 it2 it3, .string sjn, .slice on1 on2 on3, .slice wh1 wh2 wh3, .slice od1 od2 od3, .bool sds, .slice (some ⟨ib, 0, none⟩) 1 1] 34)) (.cells #[.slice none 0 0, .slice none 0 0] 26)
  rw [World.size_alloc, World.size_alloc] at bx
  generalize (if mayDoorP V0 snm = 0 then S else []) = S1 at *
  generalize (if mayDoorP V0 snm = 0 then V0 ++ [⟨snm, [], m⟩] else []) = V1 at *
  generalize mayDoorP V0 snm = G at *
  replace H0 : Hid _ := hid H0
  clear hS hV hI hcs hSB hVB hmB hmk
  go_enter Try.func6, Try.ntmps6
  go_wp2_with fail
  refine Calls.mono H0.out ?_
  rintro e U ⟨ya, yn, yc, xb, xm, xd, rfl, r1, r2, hb⟩
  have hwU := Below.trans hw (hb.mono hw.size)
  have hU3 : w.heap.size + 1 + 1 + 1 ≤ (((w.alloc (.cells #[.slice ta tn tc, .slice vb vm vd] 26)).alloc (.cells #[.int .i64 3, .string stb, .string snm, .slice co1 co2 co3, .slice none 0 0, .slice va1 va2 va3, .slice it1 it2 it3, .string sjn, .slice on1 on2 on3, .slice wh1 wh2 wh3, .slice od1 od2 od3, .bool sds, .slice (some ⟨ib, 0, none⟩) 1 1] 34)).alloc (.cells #[.slice none 0 0, .slice none 0 0] 26)).heap.size := by simp
  replace bx := bx.later hb
  have q1 := r1.mono (by decide) (Q' := fun b => w.heap.size + 1 + 1 + 1 ≤ b) fun b hb _ => Nat.le_trans hU3 hb
  have q2 := r2.mono (by decide) (Q' := fun b => w.heap.size + 1 + 1 + 1 ≤ b) fun b hb _ => Nat.le_trans hU3 hb
  generalize hz : w.heap.size + 1 + 1 = z at bx q1 q2 ⊢
  have hzw : w.heap.size < z := by omega
  have z0 := bx.cell 0
  have z1 := bx.cell 1
  have f0 := bx.free 0
  have f1 := bx.free 1
  simp only [List.getElem?_toArray, List.getElem?_cons_zero, List.getElem?_cons_succ] at z0 z1
  clear H0 hb hw r1 r2 bx hU3
  replace q1 : Hid _ := hid q1
  replace q2 : Hid _ := hid q2
  go_wp2
  refine bodyPost_ret (v := .tuple #[.agg #[.slice ya yn yc, .slice xb xm xd], .int .i64 G]) (by simp [results, Try.results6, go_sem, z0, z1]) rfl ⟨_, _, _, _, _, _, rfl, ?_, ?_, (hwU.setCell (by show w.heap.size ≤ z; omega) _).setCell (by show w.heap.size ≤ z; omega) _⟩
  · exact (q1.out.keep (by decide) fun b hb _ => by have hb' : z + 1 ≤ b := hb; rw [Below.heap_setCell _ _ _ _ (by show b ≠ z; omega), Below.heap_setCell _ _ _ _ (by show b ≠ z; omega)]).mono (by decide) fun b hb _ => by have hb' : z + 1 ≤ b := hb; show w.heap.size ≤ b; omega
  · exact (q2.out.keep (by decide) fun b hb _ => by have hb' : z + 1 ≤ b := hb; rw [Below.heap_setCell _ _ _ _ (by show b ≠ z; omega), Below.heap_setCell _ _ _ _ (by show b ≠ z; omega)]).mono (by decide) fun b hb _ => by have hb' : z + 1 ≤ b := hb; show w.heap.size ≤ b; omega

end Go.Proofs.Ytnboooaockgoiab
/- SchemaMost: what its tables and views are, plainly. -/
namespace Go.Proofs.Ytnboooaockgoiab
open Go.RowKit
set_option linter.unusedVariables false
set_option linter.unusedSimpArgs false

/-- One letter. -/
def chA (i : Nat) : ByteArray := ⟨#[UInt8.ofNat (97 + i)]⟩
def colA (j : Nat) : Co := (chA j, 1 + (j % 2 : Nat), ⟨#[]⟩)
def colsA (k : Nat) : List Co := (List.range k).map colA
def tabA (k i : Nat) : Tbl := ⟨chA i, colsA k, []⟩
def smA : Sm := { sm 6 with table := ⟨#[97]⟩ }
def vwA (i : Nat) : Vw := ⟨chA i, [], smA⟩
def tabsA (k i : Nat) : List Tbl := (List.range (min i 8)).map (tabA k)
def vwsA (i : Nat) : List Vw := (List.range (min i 8)).map vwA
theorem most_long : ∀ i < 12, ∀ k < 9, (k = 0 ∨ 6 < k) → mayTblP [] (chA i) (colsA k) = 7 := by decide +kernel
theorem most_tab : ∀ i < 12, ∀ k < 9, k ≠ 0 → ¬ 6 < k → mayTblP (tabsA k i) (chA i) (colsA k) = if i < 8 then 0 else 25 := by decide +kernel
theorem most_vw : ∀ i < 12, mayDoorP (vwsA i) (chA i) = if i < 8 then 0 else 25 := by decide +kernel
theorem chA_B (i : Nat) : StrB (chA i) := show (1 : Nat) ≤ 500 by decide
theorem colsA_B {k : Nat} (hk : k < 9) : AllB ColB (colsA k) := by
  refine ⟨by simp [colsA]; omega, fun c hc => ?_⟩
  obtain ⟨j, _, rfl⟩ := List.mem_map.1 hc
  exact ⟨chA_B j, by simp only [colA]; decide⟩
theorem tabsA_B {k : Nat} (hk : k < 9) (i : Nat) : AllB TblB (tabsA k i) := by
  refine ⟨by simp [tabsA]; omega, fun t ht => ?_⟩
  obtain ⟨j, _, rfl⟩ := List.mem_map.1 ht
  exact ⟨chA_B j, colsA_B hk, ⟨by simp [tabA], fun c hc => by simp [tabA] at hc⟩⟩
theorem smA_B : SmB smA := ⟨⟨by simp only [StrB]; decide, by simp only [StrB]; decide, by simp only [StrB]; decide⟩, ⟨by simp [smA, sm], fun x hx => by simp [smA, sm] at hx⟩, by simp [smA, sm], ⟨by simp [smA, sm], fun x hx => by simp [smA, sm] at hx⟩, ⟨by simp [smA, sm], fun x hx => by simp [smA, sm] at hx⟩, ⟨by simp [smA, sm], fun x hx => by simp [smA, sm] at hx⟩, ⟨by simp [smA, sm], fun x hx => by simp [smA, sm] at hx⟩, ⟨by simp [smA, sm], fun x hx => by simp [smA, sm] at hx⟩⟩
theorem vwsA_B (i : Nat) : AllB VwB (vwsA i) := by
  refine ⟨by simp [vwsA]; omega, fun t ht => ?_⟩
  obtain ⟨j, _, rfl⟩ := List.mem_map.1 ht
  exact ⟨chA_B j, by simp [vwA], smA_B⟩
theorem tabsA_next {k i : Nat} (h : i < 8) : tabsA k i ++ [⟨chA i, colsA k, []⟩] = tabsA k (i + 1) := by
  unfold tabsA
  rw [show min i 8 = i from by omega, show min (i + 1) 8 = i + 1 from by omega, List.range_succ, List.map_append]
  rfl
theorem tabsA_last {k i : Nat} (h : ¬ i < 8) : tabsA k i = tabsA k (i + 1) := by
  unfold tabsA
  rw [show min i 8 = 8 from by omega, show min (i + 1) 8 = 8 from by omega]
theorem vwsA_next {i : Nat} (h : i < 8) : vwsA i ++ [⟨chA i, [], smA⟩] = vwsA (i + 1) := by
  unfold vwsA
  rw [show min i 8 = i from by omega, show min (i + 1) 8 = i + 1 from by omega, List.range_succ, List.map_append]
  rfl
theorem vwsA_last {i : Nat} (h : ¬ i < 8) : vwsA i = vwsA (i + 1) := by
  unfold vwsA
  rw [show min i 8 = 8 from by omega, show min (i + 1) 8 = 8 from by omega]
/-- A text made of one byte. -/
theorem chA_conv (w : World) {i : Nat} (hi : i < 12) : (convert 27 9 (.slice (some ⟨w.heap.size, 0, none⟩) 1 1)).run Try.prog (w.alloc (.cells #[.int .u8 (97 + (i : Int))] 5)) = .ok (.string (chA i)) (w.alloc (.cells #[.int .u8 (97 + (i : Int))] 5)) := by
  refine run_convert_bytes_back (P := Try.prog) (w.alloc (.cells #[.int .u8 (97 + (i : Int))] 5)) 27 9 5 ⟨w.heap.size, 0, none⟩ 1 [UInt8.ofNat (97 + i)] Try.underlying27 Try.underlying5 Try.underlying9 ?_
  intro j hj
  obtain rfl : j = 0 := by simpa using hj
  have e : ((UInt8.ofNat (97 + i)).toNat : Int) = 97 + (i : Int) := by
    rw [UInt8.toNat_ofNat']
    omega
  rw [List.getElem_cons_zero, e]
  simp [Addr.add, World.cell?_alloc_at]

end Go.Proofs.Ytnboooaockgoiab
