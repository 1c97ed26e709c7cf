import Derived.Test.YtfopfhlohihihaaGreatNbl
import Derived.Test.YtfopfhlohihihaaGreatNbs
import Derived.Test.YtfopfhlohihihaaGreatNbm
import Derived.Test.YtfopfhlohihihaaGreatNas
namespace Go.Proofs.YtfopfhlohihihaaGreat
open Go.RowKit
set_option linter.unusedVariables false
set_option linter.unusedSimpArgs false
theorem parse_long {s : ByteArray} (h : 400 < s.size) : ∀ X a f, PaR s X a f → f = 7 := by
  intro X a f hp
  obtain ⟨ts, b, e, h1, h2⟩ := hp
  rcases h1 with ⟨_, rfl, rfl, rfl⟩ | ⟨h1, _⟩
  . rcases h2 with ⟨_, _, _, rfl⟩ | ⟨he, _⟩
    . rfl
    . cases he
  . omega
theorem Good.told {m : Sf} {X : ByteArray} (h : Good m X) (hz : X.size ≤ 400) : ∀ Y a f, PaR X Y a f → f = 0 ∧ Y = some m := told_shown h.sf h.words.words h.text hz
set_option maxRecDepth 100000 in
set_option maxHeartbeats 8000000 in
theorem parseShown_any {a : Option Addr} {len cap : Nat} {w : World} (h1 : len ≤ cap) (h2 : cap ≤ 9223372036854775807) (h3 : Nums w w.heap.size a len) :
    Calls Tryz.prog 3 #[.slice a len cap] w fun e w' => e = .returned (.bool true) ∧ Below w.heap.size w w' := by
  have HB : Hid _ := hid (begun_any w)
  go_enter Tryz.func3, Tryz.ntmps3
  go_wp2_with fail
  refine Calls.mono HB.out ?_
  rintro e w1 ⟨rfl, hb1⟩
  clear HB
  by_cases h50 : 80 < len
  . have g50 : decide ((80 : Int) < (len : Int)) = true := by simp; omega
    have g51 : decide (80 < len) = true := by simpa using h50
    go_wp2
    go_ret
    exact ⟨rfl, hb1⟩
  have g50 : decide ((80 : Int) < (len : Int)) = false := by simp; omega
  have g51 : decide (80 < len) = false := by simpa using h50
  have hN1 : Nums w1 w1.heap.size a len := fun hp => by
    obtain ⟨b, o, e, hb, hl, hz⟩ := h3 hp
    refine ⟨b, o, e, by have := hb1.size; omega, by have := hb1.size; omega, fun k hk => ?_⟩
    obtain ⟨z, z0, z1, hc⟩ := hz k hk
    exact ⟨z, z0, z1, cell_later hb1 hc⟩
  have HM : Hid _ := hid (made_any h1 h2 hN1)
  clear hN1 h3
  go_upto_region 5 with fail
  go_cut [3] (fun v3 w' => ∃ q s m, v3 = .pointer (some ⟨q, 0, none⟩) ∧ Bs w' q s ∧ IsS (fun b => True) w' m.1 s ∧ RowIs eStmt (fun b => True) w' (slV s.inn) m.2 ∧ StOK m ∧ Below w.heap.size w w')
  case first =>
    go_wp2_with fail
    refine Calls.mono HM.out ?_
    rintro e w4 ⟨rfl, hp4, hb4⟩
    have HS : Hid _ := hid (playStmt_any hp4)
    have hB4 := Below.on hb1 hb4
    have hs4 := hb4.size
    have hs1 := hb1.size
    generalize w1.heap.size = g at *
    clear HM hp4 hb4 hb1
    go_wp2_with fail
    refine Calls.mono HS.out ?_
    rintro e u ⟨s, m, r', rfl, hm, -, -, hb5, hI, hR⟩
    have hB5 : Below w.heap.size w u := hb5.below hB4 (by omega) (by omega)
    obtain ⟨sk, stb, snm, sco, sta, sva, sit, sjn, son, swh, sod, sds, sinn⟩ := s
    have T2 := bal (Below.refl _ u) (svO ⟨sk, stb, snm, sco, sta, sva, sit, sjn, son, swh, sod, sds, sinn⟩)
    have T : Hid _ := hid (And.intro (Bs.new u ⟨sk, stb, snm, sco, sta, sva, sit, sjn, son, swh, sod, sds, sinn⟩) (And.intro ((hI.mono (Q' := fun _ => True) fun _ _ _ => trivial).keep fun b _ hl => T2.block b hl) (And.intro ((hR.mono (by decide) (Q' := fun _ => True) fun _ _ _ => trivial).keep (by decide) fun b _ hl => T2.block b hl) (Below.on hB5 T2))))
    clear HS hb5 hI hR hB4 hB5 T2
    unfold stV
    dsimp only
    go_wp2_with fail
    go_meet
    exact ⟨_, _, m, rfl, T.out.1, T.out.2.1, T.out.2.2.1, hm, T.out.2.2.2⟩
  case rest =>
  obtain ⟨q, s, m, rfl, hq, hI, hR, hm, hB⟩ := hcut
  clear HM hb1 g50 g51 h50 h1 h2
  obtain ⟨X, hg⟩ := st_good hm
  obtain ⟨sk, stb, snm, sco, sta, sva, sit, sjn, son, swh, sod, sds, sinn⟩ := s
  have HSh : Hid _ := hid (hg.shows _ wc _ hI hR)
  have hzX := hg.few
  have HP : Hid (∀ w, _) := hid fun w => parseStmt_any X (by omega) w
  have HT : Hid (X.size ≤ 400 → _) := hid hg.told
  have HL : Hid (400 < X.size → _) := hid parse_long
  have cq := hq.cells
  have k0 := cq.1
  have k1 := cq.2.1
  have k2 := cq.2.2.1
  have k3 := cq.2.2.2.1
  have k4 := cq.2.2.2.2.1
  have k5 := cq.2.2.2.2.2.1
  have k6 := cq.2.2.2.2.2.2.1
  have k7 := cq.2.2.2.2.2.2.2.1
  have k8 := cq.2.2.2.2.2.2.2.2.1
  have k9 := cq.2.2.2.2.2.2.2.2.2.1
  have k10 := cq.2.2.2.2.2.2.2.2.2.2.1
  have k11 := cq.2.2.2.2.2.2.2.2.2.2.2.1
  have k12 := cq.2.2.2.2.2.2.2.2.2.2.2.2
  clear cq hg hm
  unfold stV at HSh
  dsimp only at HSh k0 k1 k2 k3 k4 k5 k6 k7 k8 k9 k10 k11 k12
  go_upto_region 6 with fail
  go_wp2_with fail
  refine Calls.mono HSh.out ?_
  rintro e w6 ⟨rfl, hb6⟩
  have hq6 := hq.later hb6
  have hI6 : IsS (fun b => True) w6 m.1 _ := hI.keep fun b _ hl => hb6.block b hl
  have hR6 : RowIs eStmt (fun b => True) w6 _ m.2 := hR.keep (by decide) fun b _ hl => hb6.block b hl
  have hB6 := Below.on hB hb6
  clear HSh hq hI hR hB hb6 k0 k1 k2 k3 k4 k5 k6 k7 k8 k9 k10 k11 k12
  have HPc : Hid _ := hid (HP.out w6)
  clear HP
  go_upto_region 7 with fail
  go_cut [5, 7] (fun v5 v7 w' => ∃ q5 sv Y a5 f, v5 = .pointer (some ⟨q5, 0, none⟩) ∧ v7 = .int .i64 f ∧ PaR X Y a5 f ∧ Bs w' q5 sv ∧ (∀ y, Y = some y → IsS (fun b => True) w' y.1 sv ∧ RowIs eStmt (fun b => True) w' (slV sv.inn) y.2) ∧ Below w6.heap.size w6 w')
  case first =>
    go_wp2_with fail
    refine Calls.mono HPc.out ?_
    rintro e w7 ⟨sv, Y, at1, f, rfl, hb7, hp, -, hxx⟩
    obtain ⟨tk, ttb, tnm, tco, tta, tva, tit, tjn, ton, twh, tod, tds, tinn⟩ := sv
    have T2 := bal (Below.refl _ w7) (svO ⟨tk, ttb, tnm, tco, tta, tva, tit, tjn, ton, twh, tod, tds, tinn⟩)
    have hyy : ∀ y, Y = some y → IsS (fun b => True) (w7.alloc (svO ⟨tk, ttb, tnm, tco, tta, tva, tit, tjn, ton, twh, tod, tds, tinn⟩)) y.1 ⟨tk, ttb, tnm, tco, tta, tva, tit, tjn, ton, twh, tod, tds, tinn⟩ ∧ RowIs eStmt (fun b => True) (w7.alloc (svO ⟨tk, ttb, tnm, tco, tta, tva, tit, tjn, ton, twh, tod, tds, tinn⟩)) (slV tinn) y.2 := fun y hy => by
      obtain ⟨i1, i2⟩ := hxx y hy
      exact ⟨(i1.mono fun _ _ _ => trivial).keep fun b _ hl => T2.block b hl, (i2.mono (by decide) fun _ _ _ => trivial).keep (by decide) fun b _ hl => T2.block b hl⟩
    have T : Hid _ := hid (And.intro (Bs.new w7 ⟨tk, ttb, tnm, tco, tta, tva, tit, tjn, ton, twh, tod, tds, tinn⟩) (And.intro hyy (Below.on hb7 T2)))
    have HPa : Hid _ := hid hp
    clear HPc HT HL hb7 hp hxx hyy T2 hq6 hI6 hR6
    unfold stV
    dsimp only
    go_wp2_with fail
    go_meet
    exact ⟨_, _, Y, at1, f, rfl, rfl, HPa.out, T.out.1, T.out.2.1, T.out.2.2⟩
  case rest =>
  obtain ⟨q5, sv, Y, a5, f, rfl, rfl, hp, hq5, hyy, hb7⟩ := hcut
  have hq7 := hq6.later hb7
  have hI7 : IsS (fun b => True) wc m.1 _ := hI6.keep fun b _ hl => hb7.block b hl
  have hR7 : RowIs eStmt (fun b => True) wc _ m.2 := hR6.keep (by decide) fun b _ hl => hb7.block b hl
  have hB7 := Below.on hB6 hb7
  clear HPc hq6 hI6 hR6 hB6 hb7
  by_cases h4 : 400 < X.size
  . obtain rfl : f = 7 := HL.out h4 _ _ _ hp
    have g4 : decide ((400 : Int) < (X.size : Int)) = true := by simp; omega
    have g5 : decide (400 < X.size) = true := by simpa using h4
    clear HT HL hp hyy hI7 hR7 hq7 hq5
    go_wp2
    go_ret
    exact ⟨rfl, hB7⟩
  . obtain ⟨rfl, rfl⟩ := HT.out (by omega) _ _ _ hp
    obtain ⟨j1, j2⟩ := hyy _ rfl
    obtain ⟨tk, ttb, tnm, tco, tta, tva, tit, tjn, ton, twh, tod, tds, tinn⟩ := sv
    have HSS : Hid _ := hid (sameStmt_any j1 j2 hI7 hR7)
    have cq := hq7.cells
    have cp := hq5.cells
    have k0 := cq.1
    have k1 := cq.2.1
    have k2 := cq.2.2.1
    have k3 := cq.2.2.2.1
    have k4 := cq.2.2.2.2.1
    have k5 := cq.2.2.2.2.2.1
    have k6 := cq.2.2.2.2.2.2.1
    have k7 := cq.2.2.2.2.2.2.2.1
    have k8 := cq.2.2.2.2.2.2.2.2.1
    have k9 := cq.2.2.2.2.2.2.2.2.2.1
    have k10 := cq.2.2.2.2.2.2.2.2.2.2.1
    have k11 := cq.2.2.2.2.2.2.2.2.2.2.2.1
    have k12 := cq.2.2.2.2.2.2.2.2.2.2.2.2
    have d0 := cp.1
    have d1 := cp.2.1
    have d2 := cp.2.2.1
    have d3 := cp.2.2.2.1
    have d4 := cp.2.2.2.2.1
    have d5 := cp.2.2.2.2.2.1
    have d6 := cp.2.2.2.2.2.2.1
    have d7 := cp.2.2.2.2.2.2.2.1
    have d8 := cp.2.2.2.2.2.2.2.2.1
    have d9 := cp.2.2.2.2.2.2.2.2.2.1
    have d10 := cp.2.2.2.2.2.2.2.2.2.2.1
    have d11 := cp.2.2.2.2.2.2.2.2.2.2.2.1
    have d12 := cp.2.2.2.2.2.2.2.2.2.2.2.2
    clear HT HL hp hyy hI7 hR7 hq7 hq5 j1 j2 cq cp
    unfold stV at HSS
    dsimp only at HSS k0 k1 k2 k3 k4 k5 k6 k7 k8 k9 k10 k11 k12 d0 d1 d2 d3 d4 d5 d6 d7 d8 d9 d10 d11 d12
    go_wp2_with fail
    refine Calls.mono HSS.out ?_
    rintro e u ⟨rfl, hbu⟩
    have hBu := Below.on hB7 hbu
    clear HSS hbu
    go_wp2
    go_ret
    exact ⟨rfl, hBu⟩
end Go.Proofs.YtfopfhlohihihaaGreat
