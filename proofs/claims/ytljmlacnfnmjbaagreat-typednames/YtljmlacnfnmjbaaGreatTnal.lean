import Derived.Test.YtljmlacnfnmjbaaGreatTnak
import Derived.Test.YtljmlacnfnmjbaaGreatTnaa
import Derived.ProofKit
import Derived.OpenShut
import Derived.ShutString
import Derived.ChangeOld
import Derived.Below
import Derived.Deep.Strs
import Derived.ChangeMaps5
namespace Go.Proofs.YtljmlacnfnmjbaaGreat
open Go.RowKit
set_option linter.unusedVariables false
set_option linter.unusedSimpArgs false

def tnP (R : Nat) : ByteArray := if R = 0 then ⟨#[]⟩ else if R = 1 then ⟨#[116]⟩ else if R = 2 then ⟨#[117]⟩ else ⟨#[119]⟩
abbrev colG (t n : ByteArray) : Pg := (2, 0, 0, ⟨#[]⟩, t, n)
def namM (nm tb : ByteArray) (P : Nat) : Sq := ⟨6, ⟨#[116]⟩, ⟨#[]⟩, [], if P = 0 then [(0, tb, nm)] else [], ⟨#[117]⟩, [(colG ⟨#[116]⟩ ⟨#[107]⟩, .nil), (colG ⟨#[117]⟩ ⟨#[114]⟩, .nil)], if P = 2 then [((8, nP), .node 0 0 (colG tb nm) .nil (.node 0 0 (colG tb nm) .nil .nil))] else [], if P = 1 then [(colG tb nm, .nil)] else []⟩
def hasC (h0 h1 te tt tu : Bool) : Int := (if h0 && (te || tt) then 1 else 0) + (if h1 && (te || tu) then 1 else 0)
theorem names_plain : ∀ R < 5, ∀ Q < 4, ∀ P < 3, (if formP (namM (nmP R) (tnP Q) P) 0 then selP tbs (namM (nmP R) (tnP Q) P) else 1) = if hasC (haveT (nmP R)) (haveU (nmP R)) (decide (tnP Q = ⟨#[]⟩)) (decide (tnP Q = ⟨#[116]⟩)) (decide (tnP Q = ⟨#[117]⟩)) = 1 then 0 else 10 := by decide +kernel
theorem tn_cells (U : World) {R : Nat} (hR : R < 4) : (U.alloc (.cells #[.string ⟨#[]⟩, .string ⟨#[116]⟩, .string ⟨#[117]⟩, .string ⟨#[119]⟩] 9)).cell? ⟨U.heap.size, R, none⟩ = some (.string (tnP R)) := by
  refine (cell_new U _ _ _ R).trans ?_
  match R, hR with
  | 0, _ => rfl
  | 1, _ => rfl
  | 2, _ => rfl
  | 3, _ => rfl
theorem sqB_nam (nm tb : ByteArray) (P : Nat) : SqB (namM nm tb P) := by
  refine ⟨by simp [namM], ?_, by simp [namM], ?_, ?_⟩ <;> (unfold namM; dsimp only; split <;> simp)

theorem Bk.put {w : World} {b : Nat} {arr : Array Value} {t : TypeId} (h : Bk w b (.cells arr t (0, 0))) (k : Nat) (v : Value) : Bk (w.setCell ⟨b, k, none⟩ v) b (.cells (arr.setIfInBounds k v) t (0, 0)) := ⟨by
  have := h.row
  simp [World.setCell, Array.getElem?_modify, this]⟩
theorem Bk.far {w : World} {b r k : Nat} {o : Obj} {v : Value} (h : Bk w b o) (hr : b ≠ r) : Bk (w.setCell ⟨r, k, none⟩ v) b o := ⟨(Below.heap_setCell _ _ _ _ hr).trans h.row⟩

set_option maxRecDepth 100000 in
set_option maxHeartbeats 4000000 in
theorem colE_any (t n : ByteArray) (w : World) : Calls Tryz.prog 24 #[.string t, .string n] w fun en w' => en = .returned (.agg #[.int .i64 2, .int .i64 0, .int .i64 0, .string ⟨#[]⟩, .string t, .string n, .slice none 0 0]) ∧ Below w.heap.size w w' := by
  go_enter Tryz.func24, Tryz.ntmps24
  go_wp2
  refine bodyPost_ret (v := .agg #[.int .i64 2, .int .i64 0, .int .i64 0, .string ⟨#[]⟩, .string t, .string n, .slice none 0 0]) (by simp [results, Tryz.results24, go_sem]) rfl ⟨rfl, ?_⟩
  exact bal (Below.refl _ _) _
set_option maxRecDepth 100000 in
set_option maxHeartbeats 4000000 in
theorem typedNames_any (n n2 n3 : Nat) (hn : n ≤ 255) (hn2 : n2 ≤ 255) (hn3 : n3 ≤ 255) (w : World) : Calls Tryz.prog 7 #[.int .u8 (n : Int), .int .u8 (n2 : Int), .int .u8 (n3 : Int)] w fun e w' => e = .returned (.bool true) ∧ Below w.heap.size w w' := by
  have H0 : Hid _ := hid (begun10_any w)
  have HS : Hid (∀ w1, _) := hid fun w1 => schemaT_any w1
  obtain ⟨R, hR⟩ : ∃ R, n % 5 = R := ⟨_, rfl⟩
  have hR5 : R < 5 := by omega
  have hRi : (R : Int) < 5 := by omega
  have nt : (n : Int).tmod 5 = (R : Int) := by rw [Int.tmod_eq_emod_of_nonneg (by omega)]; omega
  obtain ⟨R2, hR2⟩ : ∃ R, n2 % 4 = R := ⟨_, rfl⟩
  have hR24 : R2 < 4 := by omega
  have hR2i : (R2 : Int) < 4 := by omega
  have nt2 : (n2 : Int).tmod 4 = (R2 : Int) := by rw [Int.tmod_eq_emod_of_nonneg (by omega)]; omega
  obtain ⟨P, hP⟩ : ∃ R, n3 % 3 = R := ⟨_, rfl⟩
  have hP3 : P < 3 := by omega
  have nt3 : (n3 : Int).tmod 3 = (P : Int) := by rw [Int.tmod_eq_emod_of_nonneg (by omega)]; omega
  have HX := names_plain R hR5 R2 hR24 P hP3
  have HN : Hid (∀ w1, _) := hid fun w1 => have_any (nmP R) w1
  have HC : Hid (∀ U : World, _) := hid fun U => nm_cells U hR5
  have HC2 : Hid (∀ U : World, _) := hid fun U => tn_cells U hR24
  have te := empty_str (tnP R2)
  have tt := eq_lit (tnP R2) 116
  have tu := eq_lit (tnP R2) 117
  obtain ⟨nm, hnm⟩ : ∃ nm, nmP R = nm := ⟨_, rfl⟩
  rw [hnm] at HX HN HC
  obtain ⟨tb, htb⟩ : ∃ tb, tnP R2 = tb := ⟨_, rfl⟩
  rw [htb] at HX HC2 te tt tu
  obtain ⟨X, hX⟩ : ∃ X, X = (if formP (namM nm tb P) 0 then selP tbs (namM nm tb P) else 1) := ⟨_, rfl⟩
  have HCk : Hid (∀ (sv : Sv) (b : Nat) w1, IsT w1 tbs (some ⟨b, 0, none⟩) 2 2 → IsQ w1 (namM nm tb P) sv → sv.inn.2.1 = 0 → _) := hid fun sv b w1 hT hq hi => by
    have h := check_sel (vb := none) (vm := 0) (vd := 0) (sqB_nam nm tb P) hT hq rfl (fromC_tbs _)
    rw [hi, ← hX] at h
    exact h
  rw [← hX] at HX
  generalize haveT nm = h0 at *
  generalize haveU nm = h1 at *
  generalize decide (tb = ⟨#[]⟩) = be at *
  generalize decide (tb = ⟨#[116]⟩) = bt at *
  generalize decide (tb = ⟨#[117]⟩) = bu at *
  replace HX : Hid _ := hid HX
  have HCo : Hid (∀ t n w1, _) := hid fun t n w1 => colE_any t n w1
  clear hR hR2 hP hnm htb hX
  go_enter Tryz.func7, Tryz.ntmps7
  go_wp2_with fail
  refine Calls.mono H0.out ?_
  rintro e U ⟨rfl, hw⟩
  clear H0
  have sR := HC.out U
  have hA := bal (Below.refl U.heap.size U) (.cells #[.string ⟨#[107]⟩, .string ⟨#[118]⟩, .string ⟨#[110]⟩, .string ⟨#[114]⟩, .string ⟨#[113]⟩] 9)
  go_upto_region 4 with fail
  clear sR
  generalize U.alloc (.cells #[.string ⟨#[107]⟩, .string ⟨#[118]⟩, .string ⟨#[110]⟩, .string ⟨#[114]⟩, .string ⟨#[113]⟩] 9) = U1 at *
  replace hw := Below.on hw hA
  have sR := HC2.out U1
  replace hA := bal (Below.refl U1.heap.size U1) (.cells #[.string ⟨#[]⟩, .string ⟨#[116]⟩, .string ⟨#[117]⟩, .string ⟨#[119]⟩] 9)
  go_upto_region 5 with fail
  clear sR
  generalize U1.alloc (.cells #[.string ⟨#[]⟩, .string ⟨#[116]⟩, .string ⟨#[117]⟩, .string ⟨#[119]⟩] 9) = U2 at *
  replace hw := Below.on hw hA
  clear hA HC HC2 nt nt2
  go_wp2_with fail
  refine Calls.mono (HN.out _) ?_
  rintro e V ⟨rfl, hv⟩
  replace hw := Below.on hw hv
  have bi := Bk.new V (.cells #[.bool h0, .bool h1] 62)
  replace hw := bal hw (.cells #[.bool h0, .bool h1] 62)
  clear hv HN
  go_upto_region 6 with fail
  generalize V.alloc (.cells #[.bool h0, .bool h1] 62) = W at *
  have i0 := bi.cell 0
  have i1 := bi.cell 1
  simp only [List.getElem?_toArray, List.getElem?_cons_zero, List.getElem?_cons_succ] at i0 i1
  clear bi
  go_upto_region 7 with fail
  go_cut [36] (fun v36 w' => v36 = .bool (h0 && (be || bt)) ∧ W = w')
  case first =>
    cases h0 <;> cases be <;> cases bt
    all_goals
      go_wp2_with fail
      go_meet
      exact ⟨rfl, rfl⟩
  case rest =>
    obtain ⟨rfl, rfl⟩ := hcut
    obtain ⟨c1, hc1⟩ : ∃ c1, (h0 && (be || bt)) = c1 := ⟨_, rfl⟩
    rw [hc1]
    replace hc1 : Hid _ := hid hc1
    go_upto_if 36 with fail
    go_cut [10] (fun v10 w' => v10 = .int .i64 (if c1 then 1 else 0) ∧ W = w')
    case first =>
      cases c1
      all_goals
        go_wp2_with fail
        go_meet
        exact ⟨rfl, rfl⟩
    case rest =>
      obtain ⟨rfl, rfl⟩ := hcut
      obtain ⟨A1, hA1⟩ : ∃ A1 : Int, (if c1 then 1 else 0) = A1 := ⟨_, rfl⟩
      have hA1b : 0 ≤ A1 ∧ A1 ≤ 1 := by rw [← hA1]; cases c1 <;> decide
      rw [hA1]
      replace hA1 : Hid _ := hid hA1
      obtain ⟨hA10, hA11⟩ := hA1b
      go_upto_region 9 with fail
      go_cut [48] (fun v48 w' => v48 = .bool (h1 && (be || bu)) ∧ W = w')
      case first =>
        cases h1 <;> cases be <;> cases bu
        all_goals
          go_wp2_with fail
          go_meet
          exact ⟨rfl, rfl⟩
      case rest =>
        obtain ⟨rfl, rfl⟩ := hcut
        obtain ⟨c2, hc2⟩ : ∃ c2, (h1 && (be || bu)) = c2 := ⟨_, rfl⟩
        rw [hc2]
        replace hc2 : Hid _ := hid hc2
        go_upto_if 48 with fail
        go_cut [10] (fun v10 w' => v10 = .int .i64 (A1 + (if c2 then 1 else 0)) ∧ W = w')
        case first =>
          cases c2
          all_goals
            go_wp2_with fail
            go_meet
            exact ⟨by simp, rfl⟩
        case rest =>
          obtain ⟨rfl, rfl⟩ := hcut
          obtain ⟨H, hH⟩ : ∃ H : Int, A1 + (if c2 then 1 else 0) = H := ⟨_, rfl⟩
          rw [hH]
          have HX2 : Hid (X = if H = 1 then 0 else 10) := hid (by
            rw [HX.out]
            have : hasC h0 h1 be bt bu = H := by unfold hasC; rw [hc1.out, hc2.out, hA1.out, hH]
            rw [this])
          clear hH hA1 hc1 hc2 HX hA10 hA11 i0 i1 te tt tu
          go_wp2_with fail
          refine Calls.mono (HCo.out _ _ _) ?_
          rintro e V1 ⟨rfl, hv1⟩
          replace hw := Below.on hw hv1
          clear hv1
          go_wp2_with fail
          refine Calls.mono (HCo.out _ _ _) ?_
          rintro e V2 ⟨rfl, hv2⟩
          replace hw := Below.on hw hv2
          clear hv2
          have b1 := (Bk.new V2 (.cells #[.int .i64 2, .int .i64 0, .int .i64 0, .string ⟨#[]⟩, .string ⟨#[116]⟩, .string ⟨#[107]⟩, .slice none 0 0, .int .i64 2, .int .i64 0, .int .i64 0, .string ⟨#[]⟩, .string ⟨#[117]⟩, .string ⟨#[114]⟩, .slice none 0 0] 28)).later (bal (Below.refl _ _) (.cells #[.int .i64 6, .string ⟨#[116]⟩, .string ⟨#[]⟩, .slice none 0 0, .slice none 0 0, .slice none 0 0, .slice none 0 0, .string ⟨#[117]⟩, .slice (some ⟨V2.heap.size, 0, none⟩) 2 2, .slice none 0 0, .slice none 0 0, .bool false, .slice none 0 0] 43))
          have b2 := Bk.new (V2.alloc (.cells #[.int .i64 2, .int .i64 0, .int .i64 0, .string ⟨#[]⟩, .string ⟨#[116]⟩, .string ⟨#[107]⟩, .slice none 0 0, .int .i64 2, .int .i64 0, .int .i64 0, .string ⟨#[]⟩, .string ⟨#[117]⟩, .string ⟨#[114]⟩, .slice none 0 0] 28)) (.cells #[.int .i64 6, .string ⟨#[116]⟩, .string ⟨#[]⟩, .slice none 0 0, .slice none 0 0, .slice none 0 0, .slice none 0 0, .string ⟨#[117]⟩, .slice (some ⟨V2.heap.size, 0, none⟩) 2 2, .slice none 0 0, .slice none 0 0, .bool false, .slice none 0 0] 43)
          have hb2 := bal (bal (Below.refl V2.heap.size V2) (.cells #[.int .i64 2, .int .i64 0, .int .i64 0, .string ⟨#[]⟩, .string ⟨#[116]⟩, .string ⟨#[107]⟩, .slice none 0 0, .int .i64 2, .int .i64 0, .int .i64 0, .string ⟨#[]⟩, .string ⟨#[117]⟩, .string ⟨#[114]⟩, .slice none 0 0] 28)) (.cells #[.int .i64 6, .string ⟨#[116]⟩, .string ⟨#[]⟩, .slice none 0 0, .slice none 0 0, .slice none 0 0, .slice none 0 0, .string ⟨#[117]⟩, .slice (some ⟨V2.heap.size, 0, none⟩) 2 2, .slice none 0 0, .slice none 0 0, .bool false, .slice none 0 0] 43)
          rw [World.size_alloc] at b2
          go_upto_region 12 with fail
          generalize (V2.alloc (.cells #[.int .i64 2, .int .i64 0, .int .i64 0, .string ⟨#[]⟩, .string ⟨#[116]⟩, .string ⟨#[107]⟩, .slice none 0 0, .int .i64 2, .int .i64 0, .int .i64 0, .string ⟨#[]⟩, .string ⟨#[117]⟩, .string ⟨#[114]⟩, .slice none 0 0] 28)).alloc (.cells #[.int .i64 6, .string ⟨#[116]⟩, .string ⟨#[]⟩, .slice none 0 0, .slice none 0 0, .slice none 0 0, .slice none 0 0, .string ⟨#[117]⟩, .slice (some ⟨V2.heap.size, 0, none⟩) 2 2, .slice none 0 0, .slice none 0 0, .bool false, .slice none 0 0] 43) = Z at *
          have hqw := hw.size
          replace hw := Below.on hw hb2
          have hqo : V2.heap.size < V2.heap.size + 1 := by omega
          generalize V2.heap.size + 1 = q at *
          generalize V2.heap.size = qo at *
          clear hb2
          have hwq := hw
          match P, hP3 with
          | 0, _ =>
            have hI := bal (Below.refl Z.heap.size Z) (.cells #[.int .i64 0, .string tb, .string nm] 66)
            have b3 := Bk.new Z (.cells #[.int .i64 0, .string tb, .string nm] 66)
            have hq3 := b2.lt
            have b2x := b2.later hI
            have f6 := b2x.free 6
            have z6 := b2x.cell 6
            simp only [List.getElem?_toArray, List.getElem?_cons_zero, List.getElem?_cons_succ] at z6
            go_upto_region 18 with fail
            clear b2x f6 z6
            replace hw := hw.setCell (show w.heap.size ≤ (⟨q, 6, none⟩ : Addr).block by show w.heap.size ≤ q; omega) (.slice (some ⟨Z.heap.size, 0, none⟩) 1 1)
            replace b1 := b1.far (k := 6) (v := (.slice (some ⟨Z.heap.size, 0, none⟩) 1 1)) (show qo ≠ q by omega)
            replace b2 := b2.put 6 (.slice (some ⟨Z.heap.size, 0, none⟩) 1 1)
            have hs : (Z.setCell ⟨q, 6, none⟩ (.slice (some ⟨Z.heap.size, 0, none⟩) 1 1)).heap.size = Z.heap.size := by simp [World.setCell]
            replace b3 := Bk.new (Z.setCell ⟨q, 6, none⟩ (.slice (some ⟨Z.heap.size, 0, none⟩) 1 1)) (.cells #[.int .i64 0, .string tb, .string nm] 66)
            replace hI := bal (Below.refl _ (Z.setCell ⟨q, 6, none⟩ (.slice (some ⟨Z.heap.size, 0, none⟩) 1 1))) (.cells #[.int .i64 0, .string tb, .string nm] 66)
            rw [hs] at b3
            replace b1 := b1.later hI
            replace b2 := b2.later hI
            replace hw := bal hw (.cells #[.int .i64 0, .string tb, .string nm] 66)
            clear hs hI
            generalize (Z.setCell ⟨q, 6, none⟩ (.slice (some ⟨Z.heap.size, 0, none⟩) 1 1)).alloc (.cells #[.int .i64 0, .string tb, .string nm] 66) = Y at *
            generalize Z.heap.size = qi at *
            clear hq3
            have HQ : Hid (∀ w1, Below Y.heap.size Y w1 → IsQ w1 (namM nm tb 0) ⟨6, ⟨#[116]⟩, ⟨#[]⟩, (none, 0, 0), (none, 0, 0), (none, 0, 0), (some ⟨qi, 0, none⟩, 1, 1), ⟨#[117]⟩, (some ⟨qo, 0, none⟩, 2, 2), (none, 0, 0), (none, 0, 0), false, (none, 0, 0)⟩) := hid fun w1 hb =>
              ⟨rfl, rfl, rfl, rfl, RowIs.nil _ _ _, ⟨_, 1, 1, rfl, rfl, Nat.le_refl _, by omega, fun _ => ⟨qi, 0, rfl, trivial, fun i hi => by have hi2 : i < 1 := hi; (match i, hi2 with | 0, _ => exact ⟨_, rfl, rfl, fun j hj => by have hj2 : j < 3 := hj; (match j, hj2 with | 0, _ => exact (b3.later hb).cell 0 | 1, _ => exact (b3.later hb).cell 1 | 2, _ => exact (b3.later hb).cell 2)⟩)⟩⟩, row2_g (x := (colG ⟨#[116]⟩ ⟨#[107]⟩, .nil)) (y := (colG ⟨#[117]⟩ ⟨#[114]⟩, .nil)) (show Ce w1 qo 0 2 (0, 0, ⟨#[]⟩, ⟨#[116]⟩, ⟨#[107]⟩) (.slice none 0 0) from ⟨(b1.later hb).cell 0, (b1.later hb).cell 1, (b1.later hb).cell 2, (b1.later hb).cell 3, (b1.later hb).cell 4, (b1.later hb).cell 5, (b1.later hb).cell 6⟩) (SlF.nil _ _) (show Ce w1 qo 7 2 (0, 0, ⟨#[]⟩, ⟨#[117]⟩, ⟨#[114]⟩) (.slice none 0 0) from ⟨(b1.later hb).cell 7, (b1.later hb).cell 8, (b1.later hb).cell 9, (b1.later hb).cell 10, (b1.later hb).cell 11, (b1.later hb).cell 12, (b1.later hb).cell 13⟩) (SlF.nil _ _), RowIs.nil _ _ _, RowIs.nil _ _ _⟩
            have z0 : Y.cell? ⟨q, 0, none⟩ = some (.int .i64 6) := b2.cell 0
            have z1 : Y.cell? ⟨q, 1, none⟩ = some (.string ⟨#[116]⟩) := b2.cell 1
            have z2 : Y.cell? ⟨q, 2, none⟩ = some (.string ⟨#[]⟩) := b2.cell 2
            have z3 : Y.cell? ⟨q, 3, none⟩ = some (.slice none 0 0) := b2.cell 3
            have z4 : Y.cell? ⟨q, 4, none⟩ = some (.slice none 0 0) := b2.cell 4
            have z5 : Y.cell? ⟨q, 5, none⟩ = some (.slice none 0 0) := b2.cell 5
            have z6 : Y.cell? ⟨q, 6, none⟩ = some (.slice (some ⟨qi, 0, none⟩) 1 1) := b2.cell 6
            have z7 : Y.cell? ⟨q, 7, none⟩ = some (.string ⟨#[117]⟩) := b2.cell 7
            have z8 : Y.cell? ⟨q, 8, none⟩ = some (.slice (some ⟨qo, 0, none⟩) 2 2) := b2.cell 8
            have z9 : Y.cell? ⟨q, 9, none⟩ = some (.slice none 0 0) := b2.cell 9
            have z10 : Y.cell? ⟨q, 10, none⟩ = some (.slice none 0 0) := b2.cell 10
            have z11 : Y.cell? ⟨q, 11, none⟩ = some (.bool false) := b2.cell 11
            have z12 : Y.cell? ⟨q, 12, none⟩ = some (.slice none 0 0) := b2.cell 12
            clear b1 b2 b3
            have hC : Below Y.heap.size Y Y.drew := (Below.refl _ Y).drew
            go_wp2
            go_region_held (fun w' => w'.cell? ⟨q, 0, none⟩ = some (.int .i64 6) ∧ w'.cell? ⟨q, 1, none⟩ = some (.string ⟨#[116]⟩) ∧ w'.cell? ⟨q, 2, none⟩ = some (.string ⟨#[]⟩) ∧ w'.cell? ⟨q, 3, none⟩ = some (.slice none 0 0) ∧ w'.cell? ⟨q, 4, none⟩ = some (.slice none 0 0) ∧ w'.cell? ⟨q, 5, none⟩ = some (.slice none 0 0) ∧ w'.cell? ⟨q, 6, none⟩ = some (.slice (some ⟨qi, 0, none⟩) 1 1) ∧ w'.cell? ⟨q, 7, none⟩ = some (.string ⟨#[117]⟩) ∧ w'.cell? ⟨q, 8, none⟩ = some (.slice (some ⟨qo, 0, none⟩) 2 2) ∧ w'.cell? ⟨q, 9, none⟩ = some (.slice none 0 0) ∧ w'.cell? ⟨q, 10, none⟩ = some (.slice none 0 0) ∧ w'.cell? ⟨q, 11, none⟩ = some (.bool false) ∧ w'.cell? ⟨q, 12, none⟩ = some (.slice none 0 0))
              (first | exact ⟨cell_later hC z0, cell_later hC z1, cell_later hC z2, cell_later hC z3, cell_later hC z4, cell_later hC z5, cell_later hC z6, cell_later hC z7, cell_later hC z8, cell_later hC z9, cell_later hC z10, cell_later hC z11, cell_later hC z12⟩)
              (first
              | (go_at_call 17; with_reducible refine Calls.mono (HS.out _) ?_; rintro e y1 ⟨b, rfl, hT, -, hb1⟩; replace hC := Below.on hC hb1; have HT : Hid _ := hid hT; clear hT)
              | (go_at_call 15; with_reducible refine Calls.mono (HCk.out _ _ _ HT.out (HQ.out _ hC) rfl) ?_; rintro e y2 ⟨rfl, hb2⟩; replace hC := Below.on hC hb2))
            all_goals
              by_cases hh : H = 1
              · have hXX : X = 0 := by rw [HX2.out, if_pos hh]
                subst hXX
                subst hh
                clear HX2
                go_wp2
                go_ret
                exact ⟨rfl, Below.on hw hC⟩
              · have hXX : X = 10 := by rw [HX2.out, if_neg hh]
                subst hXX
                have gh : decide (H = 1) = false := by simpa using hh
                have gh2 : (H == 1) = false := by simpa using hh
                clear HX2
                go_wp2
                go_ret
                first | exact ⟨rfl, Below.on hw hC⟩ | exact ⟨ret_bool (by simp [hh]), Below.on hw hC⟩
          | 1, _ =>
            go_wp2_with fail
            refine Calls.mono (HCo.out _ _ _) ?_
            rintro e V3 ⟨rfl, hv3⟩
            replace b1 := b1.later hv3
            replace b2 := b2.later hv3
            replace hw := Below.on hw hv3
            have hI := bal (Below.refl V3.heap.size V3) (.cells #[.int .i64 2, .int .i64 0, .int .i64 0, .string ⟨#[]⟩, .string tb, .string nm, .slice none 0 0] 28)
            have b3 := Bk.new V3 (.cells #[.int .i64 2, .int .i64 0, .int .i64 0, .string ⟨#[]⟩, .string tb, .string nm, .slice none 0 0] 28)
            have hq3 := b2.lt
            have b2x := b2.later hI
            have f10 := b2x.free 10
            have z10 := b2x.cell 10
            simp only [List.getElem?_toArray, List.getElem?_cons_zero, List.getElem?_cons_succ] at z10
            go_upto_region 18 with fail
            clear b2x f10 z10
            replace hw := hw.setCell (show w.heap.size ≤ (⟨q, 10, none⟩ : Addr).block by show w.heap.size ≤ q; omega) (.slice (some ⟨V3.heap.size, 0, none⟩) 1 1)
            replace b1 := b1.far (k := 10) (v := (.slice (some ⟨V3.heap.size, 0, none⟩) 1 1)) (show qo ≠ q by omega)
            replace b2 := b2.put 10 (.slice (some ⟨V3.heap.size, 0, none⟩) 1 1)
            have hs : (V3.setCell ⟨q, 10, none⟩ (.slice (some ⟨V3.heap.size, 0, none⟩) 1 1)).heap.size = V3.heap.size := by simp [World.setCell]
            replace b3 := Bk.new (V3.setCell ⟨q, 10, none⟩ (.slice (some ⟨V3.heap.size, 0, none⟩) 1 1)) (.cells #[.int .i64 2, .int .i64 0, .int .i64 0, .string ⟨#[]⟩, .string tb, .string nm, .slice none 0 0] 28)
            replace hI := bal (Below.refl _ (V3.setCell ⟨q, 10, none⟩ (.slice (some ⟨V3.heap.size, 0, none⟩) 1 1))) (.cells #[.int .i64 2, .int .i64 0, .int .i64 0, .string ⟨#[]⟩, .string tb, .string nm, .slice none 0 0] 28)
            rw [hs] at b3
            replace b1 := b1.later hI
            replace b2 := b2.later hI
            replace hw := bal hw (.cells #[.int .i64 2, .int .i64 0, .int .i64 0, .string ⟨#[]⟩, .string tb, .string nm, .slice none 0 0] 28)
            clear hs hI
            generalize (V3.setCell ⟨q, 10, none⟩ (.slice (some ⟨V3.heap.size, 0, none⟩) 1 1)).alloc (.cells #[.int .i64 2, .int .i64 0, .int .i64 0, .string ⟨#[]⟩, .string tb, .string nm, .slice none 0 0] 28) = Y at *
            generalize V3.heap.size = qi at *
            clear hq3 hv3
            have HQ : Hid (∀ w1, Below Y.heap.size Y w1 → IsQ w1 (namM nm tb 1) ⟨6, ⟨#[116]⟩, ⟨#[]⟩, (none, 0, 0), (none, 0, 0), (none, 0, 0), (none, 0, 0), ⟨#[117]⟩, (some ⟨qo, 0, none⟩, 2, 2), (none, 0, 0), (some ⟨qi, 0, none⟩, 1, 1), false, (none, 0, 0)⟩) := hid fun w1 hb =>
              ⟨rfl, rfl, rfl, rfl, RowIs.nil _ _ _, RowIs.nil _ _ _, row2_g (x := (colG ⟨#[116]⟩ ⟨#[107]⟩, .nil)) (y := (colG ⟨#[117]⟩ ⟨#[114]⟩, .nil)) (show Ce w1 qo 0 2 (0, 0, ⟨#[]⟩, ⟨#[116]⟩, ⟨#[107]⟩) (.slice none 0 0) from ⟨(b1.later hb).cell 0, (b1.later hb).cell 1, (b1.later hb).cell 2, (b1.later hb).cell 3, (b1.later hb).cell 4, (b1.later hb).cell 5, (b1.later hb).cell 6⟩) (SlF.nil _ _) (show Ce w1 qo 7 2 (0, 0, ⟨#[]⟩, ⟨#[117]⟩, ⟨#[114]⟩) (.slice none 0 0) from ⟨(b1.later hb).cell 7, (b1.later hb).cell 8, (b1.later hb).cell 9, (b1.later hb).cell 10, (b1.later hb).cell 11, (b1.later hb).cell 12, (b1.later hb).cell 13⟩) (SlF.nil _ _), RowIs.nil _ _ _, row1_g (x := (colG tb nm, .nil)) (show Ce w1 qi 0 2 (0, 0, ⟨#[]⟩, tb, nm) (.slice none 0 0) from ⟨(b3.later hb).cell 0, (b3.later hb).cell 1, (b3.later hb).cell 2, (b3.later hb).cell 3, (b3.later hb).cell 4, (b3.later hb).cell 5, (b3.later hb).cell 6⟩) (SlF.nil _ _)⟩
            have z0 : Y.cell? ⟨q, 0, none⟩ = some (.int .i64 6) := b2.cell 0
            have z1 : Y.cell? ⟨q, 1, none⟩ = some (.string ⟨#[116]⟩) := b2.cell 1
            have z2 : Y.cell? ⟨q, 2, none⟩ = some (.string ⟨#[]⟩) := b2.cell 2
            have z3 : Y.cell? ⟨q, 3, none⟩ = some (.slice none 0 0) := b2.cell 3
            have z4 : Y.cell? ⟨q, 4, none⟩ = some (.slice none 0 0) := b2.cell 4
            have z5 : Y.cell? ⟨q, 5, none⟩ = some (.slice none 0 0) := b2.cell 5
            have z6 : Y.cell? ⟨q, 6, none⟩ = some (.slice none 0 0) := b2.cell 6
            have z7 : Y.cell? ⟨q, 7, none⟩ = some (.string ⟨#[117]⟩) := b2.cell 7
            have z8 : Y.cell? ⟨q, 8, none⟩ = some (.slice (some ⟨qo, 0, none⟩) 2 2) := b2.cell 8
            have z9 : Y.cell? ⟨q, 9, none⟩ = some (.slice none 0 0) := b2.cell 9
            have z10 : Y.cell? ⟨q, 10, none⟩ = some (.slice (some ⟨qi, 0, none⟩) 1 1) := b2.cell 10
            have z11 : Y.cell? ⟨q, 11, none⟩ = some (.bool false) := b2.cell 11
            have z12 : Y.cell? ⟨q, 12, none⟩ = some (.slice none 0 0) := b2.cell 12
            clear b1 b2 b3
            have hC : Below Y.heap.size Y Y.drew := (Below.refl _ Y).drew
            go_wp2
            go_region_held (fun w' => w'.cell? ⟨q, 0, none⟩ = some (.int .i64 6) ∧ w'.cell? ⟨q, 1, none⟩ = some (.string ⟨#[116]⟩) ∧ w'.cell? ⟨q, 2, none⟩ = some (.string ⟨#[]⟩) ∧ w'.cell? ⟨q, 3, none⟩ = some (.slice none 0 0) ∧ w'.cell? ⟨q, 4, none⟩ = some (.slice none 0 0) ∧ w'.cell? ⟨q, 5, none⟩ = some (.slice none 0 0) ∧ w'.cell? ⟨q, 6, none⟩ = some (.slice none 0 0) ∧ w'.cell? ⟨q, 7, none⟩ = some (.string ⟨#[117]⟩) ∧ w'.cell? ⟨q, 8, none⟩ = some (.slice (some ⟨qo, 0, none⟩) 2 2) ∧ w'.cell? ⟨q, 9, none⟩ = some (.slice none 0 0) ∧ w'.cell? ⟨q, 10, none⟩ = some (.slice (some ⟨qi, 0, none⟩) 1 1) ∧ w'.cell? ⟨q, 11, none⟩ = some (.bool false) ∧ w'.cell? ⟨q, 12, none⟩ = some (.slice none 0 0))
              (first | exact ⟨cell_later hC z0, cell_later hC z1, cell_later hC z2, cell_later hC z3, cell_later hC z4, cell_later hC z5, cell_later hC z6, cell_later hC z7, cell_later hC z8, cell_later hC z9, cell_later hC z10, cell_later hC z11, cell_later hC z12⟩)
              (first
              | (go_at_call 17; with_reducible refine Calls.mono (HS.out _) ?_; rintro e y1 ⟨b, rfl, hT, -, hb1⟩; replace hC := Below.on hC hb1; have HT : Hid _ := hid hT; clear hT)
              | (go_at_call 15; with_reducible refine Calls.mono (HCk.out _ _ _ HT.out (HQ.out _ hC) rfl) ?_; rintro e y2 ⟨rfl, hb2⟩; replace hC := Below.on hC hb2))
            all_goals
              by_cases hh : H = 1
              · have hXX : X = 0 := by rw [HX2.out, if_pos hh]
                subst hXX
                subst hh
                clear HX2
                go_wp2
                go_ret
                exact ⟨rfl, Below.on hw hC⟩
              · have hXX : X = 10 := by rw [HX2.out, if_neg hh]
                subst hXX
                have gh : decide (H = 1) = false := by simpa using hh
                have gh2 : (H == 1) = false := by simpa using hh
                clear HX2
                go_wp2
                go_ret
                first | exact ⟨rfl, Below.on hw hC⟩ | exact ⟨ret_bool (by simp [hh]), Below.on hw hC⟩
          | 2, _ =>
            go_wp2_with fail
            refine Calls.mono (HCo.out _ _ _) ?_
            rintro e V3 ⟨rfl, hv3⟩
            replace b1 := b1.later hv3
            replace b2 := b2.later hv3
            replace hw := Below.on hw hv3
            go_wp2_with fail
            refine Calls.mono (HCo.out _ _ _) ?_
            rintro e V4 ⟨rfl, hv4⟩
            replace b1 := b1.later hv4
            replace b2 := b2.later hv4
            replace hw := Below.on hw hv4
            have hI := bal (bal (Below.refl V4.heap.size V4) (.cells #[.int .i64 2, .int .i64 0, .int .i64 0, .string ⟨#[]⟩, .string tb, .string nm, .slice none 0 0, .int .i64 2, .int .i64 0, .int .i64 0, .string ⟨#[]⟩, .string tb, .string nm, .slice none 0 0] 28)) (.cells #[.int .i64 8, .int .i64 0, .int .i64 0, .string ⟨#[]⟩, .string ⟨#[]⟩, .string ⟨#[]⟩, .slice (some ⟨V4.heap.size, 0, none⟩) 2 2] 28)
            have b3 := Bk.new (V4.alloc (.cells #[.int .i64 2, .int .i64 0, .int .i64 0, .string ⟨#[]⟩, .string tb, .string nm, .slice none 0 0, .int .i64 2, .int .i64 0, .int .i64 0, .string ⟨#[]⟩, .string tb, .string nm, .slice none 0 0] 28)) (.cells #[.int .i64 8, .int .i64 0, .int .i64 0, .string ⟨#[]⟩, .string ⟨#[]⟩, .string ⟨#[]⟩, .slice (some ⟨V4.heap.size, 0, none⟩) 2 2] 28)
            have b4 := (Bk.new V4 (.cells #[.int .i64 2, .int .i64 0, .int .i64 0, .string ⟨#[]⟩, .string tb, .string nm, .slice none 0 0, .int .i64 2, .int .i64 0, .int .i64 0, .string ⟨#[]⟩, .string tb, .string nm, .slice none 0 0] 28)).later (bal (Below.refl _ _) (.cells #[.int .i64 8, .int .i64 0, .int .i64 0, .string ⟨#[]⟩, .string ⟨#[]⟩, .string ⟨#[]⟩, .slice (some ⟨V4.heap.size, 0, none⟩) 2 2] 28))
            rw [World.size_alloc] at b3
            have hq3 := b2.lt
            have b2x := b2.later hI
            have f9 := b2x.free 9
            have z9 := b2x.cell 9
            simp only [List.getElem?_toArray, List.getElem?_cons_zero, List.getElem?_cons_succ] at z9
            go_upto_region 18 with fail
            clear b2x f9 z9
            replace hw := hw.setCell (show w.heap.size ≤ (⟨q, 9, none⟩ : Addr).block by show w.heap.size ≤ q; omega) (.slice (some ⟨V4.heap.size + 1, 0, none⟩) 1 1)
            replace b1 := b1.far (k := 9) (v := (.slice (some ⟨V4.heap.size + 1, 0, none⟩) 1 1)) (show qo ≠ q by omega)
            replace b2 := b2.put 9 (.slice (some ⟨V4.heap.size + 1, 0, none⟩) 1 1)
            have hs : (V4.setCell ⟨q, 9, none⟩ (.slice (some ⟨V4.heap.size + 1, 0, none⟩) 1 1)).heap.size = V4.heap.size := by simp [World.setCell]
            replace b3 := Bk.new ((V4.setCell ⟨q, 9, none⟩ (.slice (some ⟨V4.heap.size + 1, 0, none⟩) 1 1)).alloc (.cells #[.int .i64 2, .int .i64 0, .int .i64 0, .string ⟨#[]⟩, .string tb, .string nm, .slice none 0 0, .int .i64 2, .int .i64 0, .int .i64 0, .string ⟨#[]⟩, .string tb, .string nm, .slice none 0 0] 28)) (.cells #[.int .i64 8, .int .i64 0, .int .i64 0, .string ⟨#[]⟩, .string ⟨#[]⟩, .string ⟨#[]⟩, .slice (some ⟨V4.heap.size, 0, none⟩) 2 2] 28)
            replace b4 := (Bk.new (V4.setCell ⟨q, 9, none⟩ (.slice (some ⟨V4.heap.size + 1, 0, none⟩) 1 1)) (.cells #[.int .i64 2, .int .i64 0, .int .i64 0, .string ⟨#[]⟩, .string tb, .string nm, .slice none 0 0, .int .i64 2, .int .i64 0, .int .i64 0, .string ⟨#[]⟩, .string tb, .string nm, .slice none 0 0] 28)).later (bal (Below.refl _ _) (.cells #[.int .i64 8, .int .i64 0, .int .i64 0, .string ⟨#[]⟩, .string ⟨#[]⟩, .string ⟨#[]⟩, .slice (some ⟨V4.heap.size, 0, none⟩) 2 2] 28))
            replace hI := bal (bal (Below.refl _ (V4.setCell ⟨q, 9, none⟩ (.slice (some ⟨V4.heap.size + 1, 0, none⟩) 1 1))) (.cells #[.int .i64 2, .int .i64 0, .int .i64 0, .string ⟨#[]⟩, .string tb, .string nm, .slice none 0 0, .int .i64 2, .int .i64 0, .int .i64 0, .string ⟨#[]⟩, .string tb, .string nm, .slice none 0 0] 28)) (.cells #[.int .i64 8, .int .i64 0, .int .i64 0, .string ⟨#[]⟩, .string ⟨#[]⟩, .string ⟨#[]⟩, .slice (some ⟨V4.heap.size, 0, none⟩) 2 2] 28)
            rw [World.size_alloc, hs] at b3
            rw [hs] at b4
            replace b1 := b1.later hI
            replace b2 := b2.later hI
            replace hw := bal (bal hw (.cells #[.int .i64 2, .int .i64 0, .int .i64 0, .string ⟨#[]⟩, .string tb, .string nm, .slice none 0 0, .int .i64 2, .int .i64 0, .int .i64 0, .string ⟨#[]⟩, .string tb, .string nm, .slice none 0 0] 28)) (.cells #[.int .i64 8, .int .i64 0, .int .i64 0, .string ⟨#[]⟩, .string ⟨#[]⟩, .string ⟨#[]⟩, .slice (some ⟨V4.heap.size, 0, none⟩) 2 2] 28)
            clear hs hI
            generalize ((V4.setCell ⟨q, 9, none⟩ (.slice (some ⟨V4.heap.size + 1, 0, none⟩) 1 1)).alloc (.cells #[.int .i64 2, .int .i64 0, .int .i64 0, .string ⟨#[]⟩, .string tb, .string nm, .slice none 0 0, .int .i64 2, .int .i64 0, .int .i64 0, .string ⟨#[]⟩, .string tb, .string nm, .slice none 0 0] 28)).alloc (.cells #[.int .i64 8, .int .i64 0, .int .i64 0, .string ⟨#[]⟩, .string ⟨#[]⟩, .string ⟨#[]⟩, .slice (some ⟨V4.heap.size, 0, none⟩) 2 2] 28) = Y at *
            generalize V4.heap.size + 1 = qi at *
            generalize V4.heap.size = qj at *
            clear hq3 hv3 hv4
            have HQ : Hid (∀ w1, Below Y.heap.size Y w1 → IsQ w1 (namM nm tb 2) ⟨6, ⟨#[116]⟩, ⟨#[]⟩, (none, 0, 0), (none, 0, 0), (none, 0, 0), (none, 0, 0), ⟨#[117]⟩, (some ⟨qo, 0, none⟩, 2, 2), (some ⟨qi, 0, none⟩, 1, 1), (none, 0, 0), false, (none, 0, 0)⟩) := hid fun w1 hb =>
              ⟨rfl, rfl, rfl, rfl, RowIs.nil _ _ _, RowIs.nil _ _ _, row2_g (x := (colG ⟨#[116]⟩ ⟨#[107]⟩, .nil)) (y := (colG ⟨#[117]⟩ ⟨#[114]⟩, .nil)) (show Ce w1 qo 0 2 (0, 0, ⟨#[]⟩, ⟨#[116]⟩, ⟨#[107]⟩) (.slice none 0 0) from ⟨(b1.later hb).cell 0, (b1.later hb).cell 1, (b1.later hb).cell 2, (b1.later hb).cell 3, (b1.later hb).cell 4, (b1.later hb).cell 5, (b1.later hb).cell 6⟩) (SlF.nil _ _) (show Ce w1 qo 7 2 (0, 0, ⟨#[]⟩, ⟨#[117]⟩, ⟨#[114]⟩) (.slice none 0 0) from ⟨(b1.later hb).cell 7, (b1.later hb).cell 8, (b1.later hb).cell 9, (b1.later hb).cell 10, (b1.later hb).cell 11, (b1.later hb).cell 12, (b1.later hb).cell 13⟩) (SlF.nil _ _), row1_g (x := ((8, nP), .node 0 0 (colG tb nm) .nil (.node 0 0 (colG tb nm) .nil .nil))) (show Ce w1 qi 0 8 nP (.slice (some ⟨qj, 0, none⟩) 2 2) from ⟨(b3.later hb).cell 0, (b3.later hb).cell 1, (b3.later hb).cell 2, (b3.later hb).cell 3, (b3.later hb).cell 4, (b3.later hb).cell 5, (b3.later hb).cell 6⟩) (slF2 (p := colG tb nm) (q := colG tb nm) (show Ce w1 qj 0 2 (0, 0, ⟨#[]⟩, tb, nm) (.slice none 0 0) from ⟨(b4.later hb).cell 0, (b4.later hb).cell 1, (b4.later hb).cell 2, (b4.later hb).cell 3, (b4.later hb).cell 4, (b4.later hb).cell 5, (b4.later hb).cell 6⟩) (SlF.nil _ _) (show Ce w1 qj 7 2 (0, 0, ⟨#[]⟩, tb, nm) (.slice none 0 0) from ⟨(b4.later hb).cell 7, (b4.later hb).cell 8, (b4.later hb).cell 9, (b4.later hb).cell 10, (b4.later hb).cell 11, (b4.later hb).cell 12, (b4.later hb).cell 13⟩) (SlF.nil _ _)), RowIs.nil _ _ _⟩
            have z0 : Y.cell? ⟨q, 0, none⟩ = some (.int .i64 6) := b2.cell 0
            have z1 : Y.cell? ⟨q, 1, none⟩ = some (.string ⟨#[116]⟩) := b2.cell 1
            have z2 : Y.cell? ⟨q, 2, none⟩ = some (.string ⟨#[]⟩) := b2.cell 2
            have z3 : Y.cell? ⟨q, 3, none⟩ = some (.slice none 0 0) := b2.cell 3
            have z4 : Y.cell? ⟨q, 4, none⟩ = some (.slice none 0 0) := b2.cell 4
            have z5 : Y.cell? ⟨q, 5, none⟩ = some (.slice none 0 0) := b2.cell 5
            have z6 : Y.cell? ⟨q, 6, none⟩ = some (.slice none 0 0) := b2.cell 6
            have z7 : Y.cell? ⟨q, 7, none⟩ = some (.string ⟨#[117]⟩) := b2.cell 7
            have z8 : Y.cell? ⟨q, 8, none⟩ = some (.slice (some ⟨qo, 0, none⟩) 2 2) := b2.cell 8
            have z9 : Y.cell? ⟨q, 9, none⟩ = some (.slice (some ⟨qi, 0, none⟩) 1 1) := b2.cell 9
            have z10 : Y.cell? ⟨q, 10, none⟩ = some (.slice none 0 0) := b2.cell 10
            have z11 : Y.cell? ⟨q, 11, none⟩ = some (.bool false) := b2.cell 11
            have z12 : Y.cell? ⟨q, 12, none⟩ = some (.slice none 0 0) := b2.cell 12
            clear b1 b2 b3 b4
            have hC : Below Y.heap.size Y Y.drew := (Below.refl _ Y).drew
            go_wp2
            go_region_held (fun w' => w'.cell? ⟨q, 0, none⟩ = some (.int .i64 6) ∧ w'.cell? ⟨q, 1, none⟩ = some (.string ⟨#[116]⟩) ∧ w'.cell? ⟨q, 2, none⟩ = some (.string ⟨#[]⟩) ∧ w'.cell? ⟨q, 3, none⟩ = some (.slice none 0 0) ∧ w'.cell? ⟨q, 4, none⟩ = some (.slice none 0 0) ∧ w'.cell? ⟨q, 5, none⟩ = some (.slice none 0 0) ∧ w'.cell? ⟨q, 6, none⟩ = some (.slice none 0 0) ∧ w'.cell? ⟨q, 7, none⟩ = some (.string ⟨#[117]⟩) ∧ w'.cell? ⟨q, 8, none⟩ = some (.slice (some ⟨qo, 0, none⟩) 2 2) ∧ w'.cell? ⟨q, 9, none⟩ = some (.slice (some ⟨qi, 0, none⟩) 1 1) ∧ w'.cell? ⟨q, 10, none⟩ = some (.slice none 0 0) ∧ w'.cell? ⟨q, 11, none⟩ = some (.bool false) ∧ w'.cell? ⟨q, 12, none⟩ = some (.slice none 0 0))
              (first | exact ⟨cell_later hC z0, cell_later hC z1, cell_later hC z2, cell_later hC z3, cell_later hC z4, cell_later hC z5, cell_later hC z6, cell_later hC z7, cell_later hC z8, cell_later hC z9, cell_later hC z10, cell_later hC z11, cell_later hC z12⟩)
              (first
              | (go_at_call 17; with_reducible refine Calls.mono (HS.out _) ?_; rintro e y1 ⟨b, rfl, hT, -, hb1⟩; replace hC := Below.on hC hb1; have HT : Hid _ := hid hT; clear hT)
              | (go_at_call 15; with_reducible refine Calls.mono (HCk.out _ _ _ HT.out (HQ.out _ hC) rfl) ?_; rintro e y2 ⟨rfl, hb2⟩; replace hC := Below.on hC hb2))
            all_goals
              by_cases hh : H = 1
              · have hXX : X = 0 := by rw [HX2.out, if_pos hh]
                subst hXX
                subst hh
                clear HX2
                go_wp2
                go_ret
                exact ⟨rfl, Below.on hw hC⟩
              · have hXX : X = 10 := by rw [HX2.out, if_neg hh]
                subst hXX
                have gh : decide (H = 1) = false := by simpa using hh
                have gh2 : (H == 1) = false := by simpa using hh
                clear HX2
                go_wp2
                go_ret
                first | exact ⟨rfl, Below.on hw hC⟩ | exact ⟨ret_bool (by simp [hh]), Below.on hw hC⟩

end Go.Proofs.YtljmlacnfnmjbaaGreat
namespace Go.Proofs.YtljmlacnfnmjbaaGreat
open Go.ChangeShapes Go.WideShapes Go.ChangeAt Go.RowKit
set_option linter.unusedVariables false

theorem own : ownKnob Tryz.prog.godebug = none := by kernel_rfl
/-- A byte that came in. -/
theorem u8_is {a : Int} (h : (Lit.int .u8 a).wf = true) : ∃ x : UInt8, a = (x.toNat : Int) := by
  have := bounds_u8 h
  refine ⟨UInt8.ofNat a.toNat, ?_⟩
  rw [UInt8.toNat_ofNat']
  omega

end Go.Proofs.YtljmlacnfnmjbaaGreat
