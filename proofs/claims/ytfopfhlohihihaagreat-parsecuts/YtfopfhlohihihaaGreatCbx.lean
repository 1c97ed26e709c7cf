import Derived.Test.YtfopfhlohihihaaGreatCbw
import Derived.Test.YtfopfhlohihihaaGreatCbv
namespace Go.Proofs.YtfopfhlohihihaaGreat
open Go.RowKit
set_option linter.unusedVariables false
set_option linter.unusedSimpArgs false
set_option maxRecDepth 100000 in
set_option maxHeartbeats 8000000 in
theorem parseCuts_any {a : Option Addr} {len cap : Nat} (x1 : UInt8) {w : World} (h1 : len ≤ cap) (h2 : cap ≤ 9223372036854775807) (h3 : Nums w w.heap.size a len) :
  Calls Tryz.prog 5 #[.slice a len cap, .int .u8 (x1.toNat : Int)] w fun e w' => e = .returned (.bool true) ∧ Below w.heap.size w w' := by
 have HB : Hid _ := hid (begun_any w)
 have b1 : x1.toNat < 256 := x1.toNat_lt
 go_enter Tryz.func5, Tryz.ntmps5
 go_wp2_with fail
 refine Calls.mono HB.out ?_
 rintro e w1 ⟨rfl, hb1⟩
 clear HB
 by_cases h50 : 60 < len
 ·have g50 : decide ((60 : Int) < (len : Int)) = true := by simp; omega
  have g51 : decide (60 < len) = true := by simpa using h50
  go_wp2
  go_ret
  exact ⟨rfl, hb1⟩
 have g50 : decide ((60 : Int) < (len : Int)) = false := by simp; omega
 have g51 : decide (60 < len) = false := by simpa using h50
 have hN1 : Nums w1 w1.heap.size a len := fun hp => by
  obtain ⟨b, o, e, hb, hl, hz⟩ := h3 hp
  refine ⟨b, o, e, by have := hb1.size; omega, by have := hb1.size; omega, fun k hk => ?_⟩
  obtain ⟨z, z0, z1, hc⟩ := hz k hk
  exact ⟨z, z0, z1, cell_later hb1 hc⟩
 have HM : Hid _ := hid (made_any h1 h2 hN1)
 clear hN1 h3
 go_upto_region 5 with fail
 go_cut [5] (fun v5 w' => ∃ X m, v5 = .string X ∧ Good m X ∧ Below w.heap.size w w')
 case first =>
  go_wp2_with fail
  refine Calls.mono HM.out ?_
  rintro e w4 ⟨rfl, hp4, hb4⟩
  have HS : Hid _ := hid (playStmt_any hp4)
  have hB4 := Below.on hb1 hb4
  have hs4 := hb4.size
  have hs1 := hb1.size
  generalize w1.heap.size = g at *
  clear HM hp4 hb4 hb1
  go_wp2_with fail
  refine Calls.mono HS.out ?_
  rintro e u ⟨s, m, r', rfl, hm, -, -, hb5, hI, hR⟩
  have hB5 : Below w.heap.size w u := hb5.below hB4 (by omega) (by omega)
  obtain ⟨X, hg⟩ := st_good hm
  have HSh : Hid _ := hid (hg.shows _ u _ hI hR)
  clear HS hb5 hI hR hB4 hm
  go_wp2_with fail
  refine Calls.mono HSh.out ?_
  rintro e u2 ⟨rfl, hb6⟩
  have hB6 := Below.on hB5 hb6
  clear HSh hb6 hB5
  go_wp2_with fail
  go_meet
  exact ⟨X, m, rfl, hg, hB6⟩
 case rest =>
 obtain ⟨X, m, rfl, hg, hB⟩ := hcut
 clear HM hb1 g50 g51 h50 h1 h2
 have hzX := hg.few
 have HLx : Hid _ := hid (refLex_any X (by omega) wc)
 go_wp2_with fail
 refine Calls.mono HLx.out ?_
 rintro e w2 ⟨ao, n, c, ts, a1, f, rfl, hts, hlx, hb2⟩
 have hB2 := Below.on hB hb2
 clear HLx hB hb2
 by_cases h4 : 400 < X.size
 ·have hf : f = 7 := by
   rcases hlx with ⟨_, _, _, e⟩ | ⟨e, _⟩
   ·exact e
   ·omega
  subst hf
  clear hg hlx hts
  go_wp2
  go_ret
  exact ⟨rfl, hB2⟩
 obtain ⟨hte, rfl, rfl⟩ := hg.lex (by omega) hlx
 have hw2 : IntKind.i64.wrap ((X.size : Int) + 2) = (X.size : Int) + 2 := by rw [IntKind.wrap_i64]; omega
 by_cases h5 : 400 < X.size + 2
 ·have g4 : decide ((400 : Int) < (X.size : Int) + 2) = true := by simp; omega
  clear hg hlx hts hte
  go_wp2
  go_ret
  exact ⟨rfl, hB2⟩
 have g4 : decide ((400 : Int) < (X.size : Int) + 2) = false := by simp; omega
 have hfew := lex_few hlx
 have hlen : (ren (pcF m)).length = X.size := by rw [← hg.text, bs_length]
 have HTok : Hid (∀ i, i ≤ (pcF m).length → (tth ts i).2.2.2 = ((atP (pcF m) i : Nat) : Int)) := hid fun i hi => by rw [hte]; exact tok_at hlen hi
 have hn : n = (pcF m).length + 1 := by rw [← hts.len, hte, List.length_append, tks_len]; rfl
 have hnf : (pcF m).length ≤ 402 := by have := hts.len; omega
 have hpos : 0 < n := by omega
 obtain ⟨b, o, rfl, hct⟩ := hts.cells hpos
 have hnc := hts.cap
 have hmc := hts.max
 obtain ⟨ix, hix, hixe⟩ : ∃ ix : Nat, ix < n ∧ x1.toNat % n = ix := ⟨_, Nat.mod_lt _ hpos, rfl⟩
 have tix : (x1.toNat : Int).tmod (n : Int) = (ix : Int) := by rw [Int.tmod_eq_emod_of_nonneg (by omega), ← hixe]; omega
 have cix := (hct ix hix).2.2.2
 rw [HTok.out ix (by omega)] at cix
 obtain ⟨q1, q2, q3⟩ := cut_at hg.text (i := ix) (by omega)
 have HT1 : Hid _ := hid (hg.cut (i := ix) (by omega) q2 (by omega))
 have HT2 : Hid _ := hid (hg.more (s := X ++ ⟨#[32, 41]⟩) rfl (by rw [ByteArray.size_append]; have : (⟨#[32, 41]⟩ : ByteArray).size = 2 := rfl; omega))
 obtain ⟨K, hK⟩ : ∃ K, atP (pcF m) ix = K := ⟨_, rfl⟩
 rw [hK] at cix q1 q3 HT1
 have hsl := str_upto X (by omega) K q1
 obtain ⟨D, hD⟩ : ∃ D, X.extract 0 K = D := ⟨_, rfl⟩
 rw [hD] at hsl HT1 q3
 have HT3 : Hid (∀ Y a f, PaR D Y a f → f = 0 ∨ (f = 5 ∧ a = (K : Int))) := hid fun Y a f hp => by rw [← q3]; exact HT1.out Y a f hp
 have hzD : D.size ≤ 400 := by omega
 have i0 : (0 : Int) ≤ (ix : Int) := by omega
 have i1 : (ix : Int) < (n : Int) := by omega
 have gn : ((n : Int) == 0) = false := by simp; omega
 clear HT1 HTok hte hlx hts hct hlen hfew hn hnf hixe q1 q2 q3 hD hK hg h4 h5
 go_upto_region 10 with fail
 have HPc : Hid _ := hid (parseStmt_any D (by omega) w2)
 go_upto_region 10 with fail
 go_cut [11, 12] (fun v11 v12 w' => ∃ at1 f1 : Int, v11 = .int .i64 at1 ∧ v12 = .int .i64 f1 ∧ (f1 = 0 ∨ (f1 = 5 ∧ at1 = (K : Int))) ∧ Below w2.heap.size w2 w')
 case first =>
  clear HT2
  go_wp2_with fail
  refine Calls.mono HPc.out ?_
  rintro e w7 ⟨sv, Y, at1, f, rfl, hb7, hp, -, -⟩
  have hpf := HT3.out _ _ _ hp
  have T2 := bal (Below.refl _ w7) (svO sv)
  have T : Hid _ := hid (And.intro hpf (Below.on hb7 T2))
  clear HPc hb7 hp T2 hpf
  obtain ⟨tk, ttb, tnm, tco, tta, tva, tit, tjn, ton, twh, tod, tds, tinn⟩ := sv
  unfold stV
  dsimp only
  go_wp2_with fail
  go_meet
  exact ⟨_, _, rfl, rfl, T.out.1, T.out.2⟩
 case rest =>
 obtain ⟨at1, f1, rfl, rfl, hf1, hb3⟩ := hcut
 have hB3 := Below.on hB2 hb3
 clear HPc HT3 hB2 hb3 cix hsl tix
 have hzs : (X ++ ⟨#[32, 41]⟩).size ≤ 9223372036854775807 := by rw [ByteArray.size_append]; have : (⟨#[32, 41]⟩ : ByteArray).size = 2 := rfl; omega
 have z0 : ¬ 9223372036854775807 < X.size + 2 := by omega
 generalize wc = we at *
 have HPc : Hid _ := hid (parseStmt_any (X ++ ⟨#[32, 41]⟩) hzs we)
 go_upto_region 11 with fail
 go_cut [14, 15] (fun v14 v15 w' => v14 = .int .i64 ((X.size : Int) + 1) ∧ v15 = .int .i64 5 ∧ Below we.heap.size we w')
 case first =>
  go_wp2_with fail
  refine Calls.mono HPc.out ?_
  rintro e w7 ⟨sv, Y, at1, f, rfl, hb7, hp, -, -⟩
  have hpf := HT2.out _ _ _ hp
  have T2 := bal (Below.refl _ w7) (svO sv)
  have T : Hid _ := hid (And.intro hpf (Below.on hb7 T2))
  clear HPc hb7 hp T2 hpf
  obtain ⟨tk, ttb, tnm, tco, tta, tva, tit, tjn, ton, twh, tod, tds, tinn⟩ := sv
  unfold stV
  dsimp only
  go_wp2_with fail
  go_meet
  obtain ⟨e1, e2⟩ := T.out.1
  subst e1 e2
  exact ⟨rfl, rfl, T.out.2⟩
 case rest =>
 obtain ⟨rfl, rfl, hb5⟩ := hcut
 have hB5 := Below.on hB3 hb5
 have hw3 : IntKind.i64.wrap ((X.size : Int) + 1) = (X.size : Int) + 1 := by rw [IntKind.wrap_i64]; omega
 clear HPc HT2 hB3 hb5
 rcases hf1 with rfl | ⟨rfl, rfl⟩
 ·go_wp2
  go_ret
  exact ⟨rfl, hB5⟩
 ·go_wp2
  go_ret
  exact ⟨rfl, hB5⟩
end Go.Proofs.YtfopfhlohihihaaGreat
