import Derived.Test.YtbmfehacnigknaaQmap
import Derived.Test.YtbmfehacnigknaaQmak
import Derived.Test.YtbmfehacnigknaaQmaa
import Derived.ProofKit
import Derived.OpenShut
import Derived.ShutString
import Derived.ChangeOld
import Derived.Below
import Derived.Deep.Strs
import Derived.ChangeMaps5
namespace Go.Proofs.Ytbmfehacnigknaa
open Go.RowKit
set_option linter.unusedVariables false
set_option linter.unusedSimpArgs false

theorem va_gd {k i : Int} {s : ByteArray} (h : VaOK k i s) : Gd (k, i, s) ∧ VF k (k, i, s) := by
  rcases h with ⟨rfl, rfl, hs⟩ | ⟨rfl, rfl, hi⟩
  · refine ⟨⟨fits0, ?_⟩, rfl, fun h => absurd h (by decide), fun _ => rfl, fun h => absurd h (by decide)⟩
    simp only [List.mem_cons, List.not_mem_nil, or_false] at hs
    rcases hs with rfl | rfl | rfl | rfl | rfl <;> decide
  · exact ⟨⟨by show -9223372036854775808 ≤ i ∧ i ≤ 9223372036854775807; omega, Nat.zero_le 500⟩, VF.num i⟩
theorem gT_wf {t : Tr} (hn : noT t = false) (h : wfT (gP t)) {s : Tg} (hs : wfF s) : wfF (gT t s) := by
  cases t with
  | nil => cases hn
  | node => exact ⟨h, hs⟩
theorem gT_lf {t : Tr} (hn : noT t = false) (h : lfT (gP t)) {s : Tg} (hs : lfF s) : lfF (gT t s) := by
  cases t with
  | nil => cases hn
  | node => exact ⟨h, hs⟩
theorem wf_one {op : Nat} {l : Tr} (hp : partsP (op : Int) = 1) (h1 : (op : Int) ≠ 1) (hn : noT l = false) (hw : wfT (gP l)) (hl : lfT (gP l)) : wfT (gP (tOne op l)) ∧ lfT (gP (tOne op l)) := by
  refine ⟨⟨?_, gd_z, gT_wf hn hw trivial⟩, fun h => absurd h h1, gT_lf hn hl trivial⟩
  show ((toL (gT l (gT .nil .nil))).length : Int) = partsP (op : Int)
  rw [gT_cons hn, hp]; rfl
theorem wf_two {op : Nat} {l r : Tr} (hp : partsP (op : Int) = 2) (h1 : (op : Int) ≠ 1) (hn : noT l = false) (hw : wfT (gP l)) (hl : lfT (gP l)) (hn2 : noT r = false) (hw2 : wfT (gP r)) (hl2 : lfT (gP r)) : wfT (gP (tTwo op l r)) ∧ lfT (gP (tTwo op l r)) := by
  refine ⟨⟨?_, gd_z, gT_wf hn hw (gT_wf hn2 hw2 trivial)⟩, fun h => absurd h h1, gT_lf hn hl (gT_lf hn2 hl2 trivial)⟩
  show ((toL (gT l (gT r .nil))).length : Int) = partsP (op : Int)
  rw [gT_cons hn, gT_cons hn2, hp]; rfl
theorem leaf_wf {C : Cl2} {k : Int} {t : Tr} (h : LeafOK C k t) : wfT (gP t) ∧ lfT (gP t) := by
  rcases h with ⟨tb, nm, rfl, -⟩ | ⟨i, s, rfl, hv⟩
  · exact ⟨⟨rfl, gd_z, trivial⟩, fun h => absurd h (show ¬ (2 : Int) = 1 by decide), trivial⟩
  · exact ⟨⟨rfl, (va_gd hv).1, trivial⟩, fun _ => (va_gd hv).2, trivial⟩
theorem pl_wf : ∀ (n : Nat) {k : Int} {t : Tr}, Pl C0 n k t → wfT (gP t) ∧ lfT (gP t)
  | 0, k, t, h => leaf_wf h.2
  | n + 1, k, t, h => by
    rcases h with ⟨_, h⟩ | ⟨rfl, ⟨l, rfl, h⟩ | ⟨a, l, r, ha, rfl, hl, hr⟩⟩ | ⟨rfl, ⟨l, rfl, h⟩ | ⟨a, l, r, ha, rfl, hl, hr⟩ | ⟨a, k, l, r, ha, hk, rfl, hl, hr⟩⟩
    · exact leaf_wf h
    · exact wf_one rfl (by decide) (pl_kd n h).2 (pl_wf n h).1 (pl_wf n h).2
    · refine wf_two ?_ (by omega) (pl_kd n hl).2 (pl_wf n hl).1 (pl_wf n hl).2 (pl_kd n hr).2 (pl_wf n hr).1 (pl_wf n hr).2
      match a, ha with
      | 0, _ => rfl
      | 1, _ => rfl
      | 2, _ => rfl
    · exact wf_one rfl (by decide) (pl_kd n h).2 (pl_wf n h).1 (pl_wf n h).2
    · refine wf_two ?_ (by omega) (pl_kd n hl).2 (pl_wf n hl).1 (pl_wf n hl).2 (pl_kd n hr).2 (pl_wf n hr).1 (pl_wf n hr).2
      match a, ha with
      | 0, _ => rfl
      | 1, _ => rfl
    · refine wf_two ?_ (by omega) (pl_kd n hl).2 (pl_wf n hl).1 (pl_wf n hl).2 (pl_kd n hr).2 (pl_wf n hr).1 (pl_wf n hr).2
      match a, ha with
      | 0, _ => rfl
      | 1, _ => rfl
      | 2, _ => rfl
      | 3, _ => rfl
      | 4, _ => rfl
      | 5, _ => rfl
/-- The values of a row by numbers. -/
def RwOK (L : List Co) (V : List Vt) : Prop := V.length = L.length ∧ ∀ i (h1 : i < L.length) (h2 : i < V.length), V[i].1 = L[i].2.1 ∧ VaOK L[i].2.1 V[i].2.1 V[i].2.2
/-- What Row tells. -/
def TeRw (g : Nat) (w : World) (L : List Co) (e : Ending) (w' : World) : Prop := ∃ a m d V, e = .returned (.slice a m d) ∧ RwOK L V ∧ OwnR 38 3 w.heap.size w' (.slice a m d) (V.map fun v => [.int .i64 v.1, .int .i64 v.2.1, .string v.2.2]) ∧ But g w w'
abbrev vC (v : Vt) : List Value := [.int .i64 v.1, .int .i64 v.2.1, .string v.2.2]
set_option maxRecDepth 100000 in
set_option maxHeartbeats 4000000 in
theorem rowL_any {g r : Nat} {w : World} (hp : Pk w g r) (L : List Co) (hL : L.length ≤ 100) (hk12 : ∀ c ∈ L, c.2.1 = 1 ∨ c.2.1 = 2) (nm : ByteArray) {ca : Option Addr} {cn cc : Nat} (xa : Option Addr) (xn xc : Nat) (hc : RowIs eCol (fun b => b ≠ g) w (.slice ca cn cc) L) :
    Calls Try.prog 13 #[.pointer (some ⟨g, 0, none⟩), .agg #[.string nm, .slice ca cn cc, .slice xa xn xc]] w (TeRw g w L) := by
  obtain ⟨hn, hnc, hcm⟩ := row_lens hc
  have hgl := hp.lt
  have bT := Bk.new w (.cells #[.string nm, .slice ca cn cc, .slice xa xn xc] 27)
  have hB0 : But g w (w.alloc (.cells #[.string nm, .slice ca cn cc, .slice xa xn xc] 27)) := (But.refl g w).alloc _
  have hp0 := hp.alloc (.cells #[.string nm, .slice ca cn cc, .slice xa xn xc] 27)
  have hR0 : Hid (∀ w', But g w w' → RowIs eCol (fun b => b ≠ g) w' (.slice ca cn cc) L) := hid fun w' hb => hc.keep (by decide) fun b hq hl => hb.block b hl hq
  clear hp hc
  go_enter Try.func13, Try.ntmps13
  go_upto_region 1 with fail
  have hs0 : w.heap.size ≤ (w.alloc (.cells #[.string nm, .slice ca cn cc, .slice xa xn xc] 27)).heap.size := by simp
  generalize w.alloc (.cells #[.string nm, .slice ca cn cc, .slice xa xn xc] 27) = W at *
  go_wp2
  go_loopw [5, 6] (fun v5 v6 wr => ∃ (k : Nat) (V : List Vt) (r' : Nat) (a : Option Addr) (m d : Nat), k ≤ L.length ∧ v6 = .int .i64 k ∧ v5 = .slice a m d ∧ V.length = k ∧ Hid (∀ i (h1 : i < L.length) (h2 : i < V.length), V[i].1 = L[i].2.1 ∧ VaOK L[i].2.1 V[i].2.1 V[i].2.2) ∧ OwnR 38 3 (w.heap.size + 1) wr (.slice a m d) (V.map vC) ∧ Pk wr g r' ∧ But g w wr ∧ Bk wr w.heap.size (.cells #[.string nm, .slice ca cn cc, .slice xa xn xc] 27)) (fun _ i _ => L.length - (intOf i).toNat)
  case atStart => exact ⟨0, [], r, none, 0, 0, Nat.zero_le _, rfl, rfl, rfl, hid fun i h1 h2 => by simp at h2, OwnR.nil _ _ _ _, hp0, hB0, bT⟩
  case round =>
    obtain ⟨k, V, r', a, m, d, hk, rfl, rfl, hV, HV, ho, hpr, hBr, bTr⟩ := hrel
    have t1 := bTr.cell 1
    simp only [List.getElem?_toArray, List.getElem?_cons_zero, List.getElem?_cons_succ] at t1
    by_cases hlt : k < L.length
    · obtain ⟨_, _, _, e', _, _, _, hx⟩ := hR0.out wr hBr
      cases e'
      obtain ⟨b, o, hca, hq, hi⟩ := hx (by omega)
      rw [hca] at t1
      obtain ⟨cs, hE, h2, h3⟩ := hi k hlt
      obtain ⟨x, hxl⟩ : ∃ x, L[k] = x := ⟨_, rfl⟩
      have hE' : cs = [.string L[k].1, .int .i64 L[k].2.1, .string L[k].2.2] := hE
      subst hE'
      have c1 : wr.cell? ⟨b, o + k * 3 + 1, none⟩ = some (.int .i64 L[k].2.1) := h3 1 (show 1 < 3 by decide)
      have hx12 := hk12 L[k] (List.getElem_mem hlt)
      rw [hxl] at c1 hx12
      have HVl : Hid _ := hid (value_any hpr x.2.1 hx12)
      have HXl : Hid _ := hid hxl
      have hkm : (k : Int) < (cn : Int) := by omega
      replace hca : Hid _ := hid hca
      have hk5 : k ≤ 100 := by omega
      clear h2 h3 hi hx hE bT hB0 hp0 hxl
      go_wp2_with fail
      refine Calls.mono HVl.out ?_
      rintro e w4 ⟨i, s, r2, rfl, hva, hr2, hp4, hb4⟩
      have ho4 := ho.but hb4 (by omega)
      have hB4 := hBr.trans hb4
      have bT4 : Bk w4 w.heap.size (.cells #[.string nm, .slice ca cn cc, .slice xa xn xc] 27) := ⟨(hb4.block w.heap.size bTr.lt (by omega)).trans bTr.row⟩
      have ho5 := ho4.alloc (.cells #[.int .i64 x.2.1, .int .i64 i, .string s] 38)
      have hB5 := hB4.alloc (.cells #[.int .i64 x.2.1, .int .i64 i, .string s] 38)
      have bT5 := bT4.later (bal (Below.refl _ _) (.cells #[.int .i64 x.2.1, .int .i64 i, .string s] 38))
      have hp5 := hp4.alloc (.cells #[.int .i64 x.2.1, .int .i64 i, .string s] 38)
      have hblk := ho4.blk
      have hsz5 : w.heap.size + 1 ≤ (w4.alloc (.cells #[.int .i64 x.2.1, .int .i64 i, .string s] 38)).heap.size := by have := bT5.lt; omega
      clear HVl ho4 hB4 bT4 hb4 hp4 ho hpr hBr bTr
      go_wp2_with (first | (at_builtin; go_must (refine wpList_appR Try.underlying45 Try.infoTVal rfl (by decide) (by decide) rfl (.tmp 14) (.tmp 23) rfl _ (V.map vC) w4.heap.size [.int .i64 x.2.1, .int .i64 i, .string s] rfl rfl ho5 rfl (by simp [Value.oneCell']) (new3 w4 _ _ _ _) (by rw [List.length_map]; omega) hsz5 ?_)) | fail)
      intro v' w6 hO6 hg6 hown
      obtain ⟨a2, m2, d2, rfl⟩ := hO6.sl
      have hb7 := below_grows (Below.refl (w.heap.size + 1) _) hsz5 hg6 fun k e => (hblk k e).1
      have hB6 : But g w w6 := ⟨hb7.os.trans hB5.os, hb7.tape.trans hB5.tape, hb7.output.trans hB5.output, Nat.le_trans hB5.size hb7.size, fun k hk hkg => (hb7.block k (by omega)).trans (hB5.block k hk hkg)⟩
      have bT6 : Bk w6 w.heap.size (.cells #[.string nm, .slice ca cn cc, .slice xa xn xc] 27) := ⟨(hb7.block w.heap.size (by omega)).trans bT5.row⟩
      have hp6 := hp5.grown hg6 fun k e => by have := (hblk k e).1; omega
      have HT : Hid _ := hid (And.intro hO6 (And.intro hB6 (And.intro bT6 hp6)))
      clear hO6 hB6 bT6 hp6 hg6 hown ho5 hB5 bT5 hp5 hblk hb7
      go_wp2
      go_roundw
      case rel =>
        refine ⟨k + 1, V ++ [(x.2.1, i, s)], r2, a2, m2, d2, hlt, by go_num, rfl, by rw [List.length_append]; simp [hV], hid fun j h1 h2 => ?_, by rw [List.map_append]; exact HT.out.1, HT.out.2.2.2, HT.out.2.1, HT.out.2.2.1⟩
        by_cases hj : j < V.length
        · rw [List.getElem_append_left hj]
          exact HV.out j h1 hj
        · have hjk : j = k := by rw [List.length_append] at h2; simp at h2; omega
          subst hjk
          rw [List.getElem_append_right (by omega)]
          simp only [hV, Nat.sub_self, List.getElem_cons_zero]
          rw [HXl.out]
          exact ⟨rfl, hva⟩
      case measure => simp only [intOf]; omega
    · obtain rfl : k = L.length := by omega
      have hge : ¬ (L.length : Int) < (cn : Int) := by omega
      have hgd : decide ((L.length : Int) < (cn : Int)) = false := by simpa using hge
      go_wp2
      go_ret
      exact ⟨a, m, d, V, rfl, ⟨hV, HV.out⟩, ⟨ho.1, owns_base ho.2 (by omega)⟩, hBr⟩

end Go.Proofs.Ytbmfehacnigknaa
namespace Go.Proofs.Ytbmfehacnigknaa
open Go.RowKit
set_option linter.unusedVariables false
set_option linter.unusedSimpArgs false

abbrev I0 : List It := C0.map Prod.fst
abbrev K0 : List Int := C0.map Prod.snd
theorem rw_vals {V : List Vt} (h : RwOK tbT.cols V) : I0.length = V.length ∧ (∀ i (h1 : i < K0.length) (h2 : i < V.length), VF K0[i] V[i]) ∧ ∀ v ∈ V, Gd v := by
  obtain ⟨hl, hv⟩ := h
  have hl3 : V.length = 3 := hl
  match V, hl3 with
  | [v0, v1, v2], _ =>
    have q0 := hv 0 (by decide) (by simp)
    have q1 := hv 1 (by decide) (by simp)
    have q2 := hv 2 (by decide) (by simp)
    simp only [List.getElem_cons_zero, List.getElem_cons_succ] at q0 q1 q2
    have f : ∀ {k : Int} {v : Vt}, v.1 = k → VaOK k v.2.1 v.2.2 → Gd v ∧ VF k v := fun {k v} h1 h2 => by
      obtain ⟨a, b, c⟩ := v
      dsimp only at h1 h2
      subst h1
      exact va_gd h2
    have g0 := f q0.1 q0.2
    have g1 := f q1.1 q1.2
    have g2 := f q2.1 q2.2
    refine ⟨rfl, fun i h1 h2 => ?_, fun v hv => ?_⟩
    · have hi : i < 3 := h1
      match i, hi with
      | 0, _ => exact g0.2
      | 1, _ => exact g1.2
      | 2, _ => exact g2.2
    · simp only [List.mem_cons, List.not_mem_nil, or_false] at hv
      rcases hv with rfl | rfl | rfl
      · exact g0.1
      · exact g1.1
      · exact g2.1
theorem runV_neq (k i : Int) (s : ByteArray) (w : World) :
    (binOp .neq 38 (.agg #[.int .i64 k, .int .i64 i, .string s]) (.agg #[.int .i64 k, .int .i64 i, .string s])).run Try.prog w = .ok (.bool false) w := by
  go_simp
theorem nums_on {w w1 : World} {a : Option Addr} {len : Nat} (h : Nums w w.heap.size a len) (hb : Below w.heap.size w w1) : Nums w1 w1.heap.size a len := fun hp => by
  obtain ⟨b, o, ha, hb1, hb2, hz⟩ := h hp
  refine ⟨b, o, ha, by have := hb.size; omega, by have := hb.size; omega, fun k hk => ?_⟩
  obtain ⟨z, z1, z2, z3⟩ := hz k hk
  exact ⟨z, z1, z2, cell_later hb z3⟩
set_option maxRecDepth 100000 in
set_option maxHeartbeats 16000000 in
theorem evalMade_any {a : Option Addr} {len cap : Nat} {a1 : Option Addr} {len1 cap1 : Nat} (n : Nat) (hn : n ≤ 255) (w : World) (hlc : len ≤ cap) (hcm : cap ≤ 9223372036854775807) (hnums : Nums w w.heap.size a len) (hlc1 : len1 ≤ cap1) (hcm1 : cap1 ≤ 9223372036854775807) (hnums1 : Nums w w.heap.size a1 len1) : Calls Try.prog 3 #[.slice a len cap, .slice a1 len1 cap1, .int .u8 (n : Int)] w fun e w' => e = .returned (.bool true) ∧ Below w.heap.size w w' := by
  have H0 : Hid _ := hid (begun11_any w)
  have HS : Hid (∀ w1, _) := hid fun w1 => schemaT_any w1
  have HNu : Hid (∀ w1 : World, Below w.heap.size w w1 → Nums w1 w1.heap.size a len) := hid fun w1 hb => nums_on hnums hb
  have HNu1 : Hid (∀ w1 : World, Below w.heap.size w w1 → Nums w1 w1.heap.size a1 len1) := hid fun w1 hb => nums_on hnums1 hb
  obtain ⟨K, hK⟩ : ∃ R, n % 3 = R := ⟨_, rfl⟩
  have hK3 : K < 3 := by omega
  have nt : (n : Int).tmod 3 = (K : Int) := by rw [Int.tmod_eq_emod_of_nonneg (by omega)]; omega
  have hwK : IntKind.i64.wrap (K : Int) = (K : Int) := wrapK (by omega) (by omega)
  have hwK1 : IntKind.i64.wrap (1 + (K : Int)) = 1 + (K : Int) := wrapK (by omega) (by omega)
  clear hnums hnums1
  go_enter Try.func3, Try.ntmps3
  go_wp2_with fail
  refine Calls.mono H0.out ?_
  rintro e U ⟨rfl, hw⟩
  clear H0
  by_cases hl : 80 < len
  · have hl1 : (80 : Int) < (len : Int) := by omega
    have hl2 : decide ((80 : Int) < (len : Int)) = true := by simpa using hl1
    go_wp2
    go_ret
    exact ⟨rfl, hw⟩
  have hl1 : ¬ (80 : Int) < (len : Int) := by omega
  have hl2 : decide ((80 : Int) < (len : Int)) = false := by simpa using hl1
  by_cases hm : 20 < len1
  · have hm1 : (20 : Int) < (len1 : Int) := by omega
    have hm2 : decide ((20 : Int) < (len1 : Int)) = true := by simpa using hm1
    go_wp2
    go_ret
    exact ⟨rfl, hw⟩
  have hm1 : ¬ (20 : Int) < (len1 : Int) := by omega
  have hm2 : decide ((20 : Int) < (len1 : Int)) = false := by simpa using hm1
  go_wp2_with fail
  refine Calls.mono (HS.out _) ?_
  rintro e U1 ⟨tbk, rfl, hT, hbk, hb1⟩
  replace hw := Below.on hw hb1
  have hrow := hT.row
  obtain ⟨_, _, _, e', -, -, -, hx⟩ := hrow
  cases e'
  obtain ⟨_, _, e', -, hi⟩ := hx (by decide)
  cases e'
  obtain ⟨cs, hE, -, hcc⟩ := hi 0 (by simp)
  obtain ⟨ca, cn, cc, xa, xn, xc, rfl, hcol, -⟩ := hE
  have c0 : U1.cell? ⟨tbk, 0, none⟩ = some (.string ⟨#[116]⟩) := by have := hcc 0 (show 0 < 3 by decide); simpa [eTbl] using this
  have c1 : U1.cell? ⟨tbk, 1, none⟩ = some (.slice ca cn cc) := by have := hcc 1 (show 1 < 3 by decide); simpa [eTbl] using this
  have c2 : U1.cell? ⟨tbk, 2, none⟩ = some (.slice xa xn xc) := by have := hcc 2 (show 2 < 3 by decide); simpa [eTbl] using this
  replace hcol : RowIs eCol (fun _ => True) U1 (.slice ca cn cc) tbT.cols := hcol.mono (by decide) fun _ _ _ => trivial
  have hft := fldT
  have hb2 := bal (Below.refl _ U1) (.cells #[.string ⟨#[116]⟩, .slice ca cn cc, .slice xa xn xc] 27)
  have bT := Bk.new U1 (.cells #[.string ⟨#[116]⟩, .slice ca cn cc, .slice xa xn xc] 27)
  have hcolT : RowIs eCol (fun b => b < U1.heap.size) (U1.alloc (.cells #[.string ⟨#[116]⟩, .slice ca cn cc, .slice xa xn xc] 27)) (.slice ca cn cc) tbT.cols := (hcol.mono (by decide) fun _ _ hl => hl).keep (by decide) fun b _ hl => hb2.block b hl
  clear hT hx hi hcc hb1 HS
  go_upto_region 6 with fail
  generalize U1.alloc (.cells #[.string ⟨#[116]⟩, .slice ca cn cc, .slice xa xn xc] 27) = U1t at *
  obtain ⟨qt, hqt⟩ : ∃ qt, U1.heap.size = qt := ⟨_, rfl⟩
  rw [hqt] at bT
  (try rw [hqt])
  have t0 := bT.cell 0
  have t1 := bT.cell 1
  have t2 := bT.cell 2
  simp only [List.getElem?_toArray, List.getElem?_cons_zero, List.getElem?_cons_succ] at t0 t1 t2
  have HCo : Hid _ := hid (playCols_any (nm := ⟨#[116]⟩) (a' := xa) (n' := xn) (c' := xc) hcolT (by simp))
  replace hw := Below.on hw hb2
  have hU1t : U1.heap.size ≤ U1t.heap.size := hb2.size
  clear c0 c1 c2 hft hcol hqt bT hb2
  go_wp2_with fail
  refine Calls.mono HCo.out ?_
  rintro e U2 ⟨v1, v2, rfl, ho1, ho2, -, hb2⟩
  obtain ⟨ia, im, ic, rfl⟩ := ho1.sl
  obtain ⟨ka, km, kc, rfl⟩ := ho2.sl
  replace hw := Below.on hw hb2
  replace t0 := cell_later hb2 t0
  replace t1 := cell_later hb2 t1
  replace t2 := cell_later hb2 t2
  have r1 : RowIs eItem (fun b => b < U2.heap.size) U2 (.slice ia im ic) I0 := OwnR.rowE (e := eItem) ho1 rfl (fun b _ h => h) fun i h1 h2 => by
    have hi : i < 3 := h1
    match i, hi with
    | 0, _ => rfl
    | 1, _ => rfl
    | 2, _ => rfl
  have r2 : RowIs eInt (fun b => b < U2.heap.size) U2 (.slice ka km kc) K0 := OwnR.rowE (e := eInt) ho2 rfl (fun b _ h => h) fun i h1 h2 => by
    have hi : i < 3 := h1
    match i, hi with
    | 0, _ => rfl
    | 1, _ => rfl
    | 2, _ => rfl
  obtain rfl : im = 3 := (row_lens r1).1.symm
  obtain rfl : km = 3 := (row_lens r2).1.symm
  replace hcolT : RowIs eCol (fun b => b < U2.heap.size) U2 (.slice ca cn cc) tbT.cols := (hcolT.keep (by decide) fun b hq hl => hb2.block b hl).mono (by decide) fun b _ hl => hl
  have HMa : Hid _ := hid (made10_any hlc hcm (HNu.out U2 hw))
  clear HCo ho1 ho2 hb2 HNu hU1t
  go_wp2_with fail
  refine Calls.mono HMa.out ?_
  rintro e U3 ⟨rfl, hp, hb3⟩
  have hcs : Cols U3 U2.heap.size C0 ia ic ka kc := ⟨(r1.keep (by decide) fun b _ hl => hb3.block b hl).mono (by decide) fun b hb _ => by have : b < U2.heap.size := hb; omega, (r2.keep (by decide) fun b _ hl => hb3.block b hl).mono (by decide) fun b hb _ => by have : b < U2.heap.size := hb; omega, by simp, ⟨((0, ⟨#[116]⟩, ⟨#[107]⟩), 1), by simp, rfl⟩, ⟨((0, ⟨#[116]⟩, ⟨#[118]⟩), 2), by simp, rfl⟩⟩
  have HPl : Hid _ := hid (play_any 5 (1 + (K : Int)) 0 hp hcs (by omega) rfl)
  have hs3 := hb3.size
  have hgl := hp.lt
  clear HMa hp hcs r2
  go_wp2_with fail
  refine Calls.mono HPl.out ?_
  rintro e U4 ⟨o, p, ea, en, ec, t, r', rfl, hpl, -, -, hbut, hex⟩
  have hB24 : Below U2.heap.size U2 U4 := hbut.below hb3 (Nat.le_refl _) hs3
  obtain ⟨hkd, hnt⟩ := pl_kd 5 hpl
  obtain ⟨hwf, hlf⟩ := pl_wf 5 hpl
  obtain ⟨hpt, hsl⟩ := hex.parts
  have hE4 : eG.E (fun b => U3.heap.size ≤ b) U4 (gP t) [.int .i64 o, .int .i64 p.1, .int .i64 p.2.1, .string p.2.2.1, .string p.2.2.2.1, .string p.2.2.2.2, .slice ea en ec] := ⟨ea, en, ec, by rw [hpt]; rfl, hsl⟩
  have hb5 := bal hB24 (.cells #[.int .i64 o, .int .i64 p.1, .int .i64 p.2.1, .string p.2.2.1, .string p.2.2.2.1, .string p.2.2.2.2, .slice ea en ec] 41)
  have bq := Bk.new U4 (.cells #[.int .i64 o, .int .i64 p.1, .int .i64 p.2.1, .string p.2.2.1, .string p.2.2.2.1, .string p.2.2.2.2, .slice ea en ec] 41)
  replace hE4 := eG.keep (fun b _ hl => (bal (Below.refl _ _) (.cells #[.int .i64 o, .int .i64 p.1, .int .i64 p.2.1, .string p.2.2.1, .string p.2.2.2.1, .string p.2.2.2.2, .slice ea en ec] 41)).block b hl) hE4
  replace r1 := r1.keep (w' := U4.alloc (.cells #[.int .i64 o, .int .i64 p.1, .int .i64 p.2.1, .string p.2.2.1, .string p.2.2.2.1, .string p.2.2.2.2, .slice ea en ec] 41)) (by decide) fun b _ hl => hb5.block b hl
  replace hcolT := hcolT.keep (w' := U4.alloc (.cells #[.int .i64 o, .int .i64 p.1, .int .i64 p.2.1, .string p.2.2.1, .string p.2.2.2.1, .string p.2.2.2.2, .slice ea en ec] 41)) (by decide) fun b _ hl => hb5.block b hl
  have hU24 : U2.heap.size ≤ (U4.alloc (.cells #[.int .i64 o, .int .i64 p.1, .int .i64 p.2.1, .string p.2.2.1, .string p.2.2.2.1, .string p.2.2.2.2, .slice ea en ec] 41)).heap.size := hb5.size
  replace t0 := cell_later hb5 t0
  replace t1 := cell_later hb5 t1
  replace t2 := cell_later hb5 t2
  replace hw := Below.on hw hb5
  clear HPl hbut hex hsl hb3 hB24 hpt hs3 hgl hpl hb5
  simp only [exV]
  go_upto_region 8 with fail
  generalize U4.alloc (.cells #[.int .i64 o, .int .i64 p.1, .int .i64 p.2.1, .string p.2.2.1, .string p.2.2.2.1, .string p.2.2.2.2, .slice ea en ec] 41) = U5 at *
  obtain ⟨qe, hqe⟩ : ∃ qe, U4.heap.size = qe := ⟨_, rfl⟩
  rw [hqe] at bq
  (try rw [hqe])
  have d0 := bq.cell 0
  have d1 := bq.cell 1
  have d2 := bq.cell 2
  have d3 := bq.cell 3
  have d4 := bq.cell 4
  have d5 := bq.cell 5
  have d6 := bq.cell 6
  simp only [List.getElem?_toArray, List.getElem?_cons_zero, List.getElem?_cons_succ] at d0 d1 d2 d3 d4 d5 d6
  clear bq hqe
  have HMv : Hid (∀ w1 : World, Below U5.heap.size U5 w1 → _) := hid fun w1 hb => made10_any hlc1 hcm1 (HNu1.out w1 (Below.on hw hb))
  have HRw : Hid (∀ (w1 : World) (g r : Nat), Below U5.heap.size U5 w1 → U5.heap.size ≤ g → Pk w1 g r → _) := hid fun w1 g r hb hg hp => rowL_any hp tbT.cols (by decide) (fun c hc => by
    simp only [List.mem_cons, List.not_mem_nil, or_false] at hc
    rcases hc with rfl | rfl | rfl
    · exact .inl rfl
    · exact .inr rfl
    · exact .inl rfl) ⟨#[116]⟩ xa xn xc ((hcolT.keep (by decide) fun b _ hl => hb.block b hl).mono (by decide) fun b hq _ => by have : b < U2.heap.size := hq; omega)
  clear HNu1
  go_upto_region 8 with fail
  have hY : Below U5.heap.size U5 U5.drew := (Below.refl _ U5).drew
  refine wp_region_held_drew (S := fun w' => w'.cell? ⟨qt, 0, none⟩ = some (.string ⟨#[116]⟩) ∧ w'.cell? ⟨qt, 1, none⟩ = some (.slice ca cn cc) ∧ w'.cell? ⟨qt, 2, none⟩ = some (.slice xa xn xc)) (by kernel_rfl) (⟨cell_later hY t0, cell_later hY t1, cell_later hY t2⟩) (fun hHeld => ?_)
  generalize U5.drew = y at *
  refine wpAnyH_take (i := 0) (v := ?tv501) rfl (by kernel_rfl) (by kernel_rfl) (by kernel_rfl) (fun _ _ _ h => h) (Or.inl ⟨by rfl, ?hy501⟩) (by assumption) ?rs501
  case hy501 => (intro w9 hSw; (try dsimp only at hSw); go_simp; (try with_reducible rfl))
  (try simp only [Act.put, List.getElem_toArray, List.getElem_cons_zero, List.getElem_cons_succ, List.setIfInBounds_toArray, List.set_cons_zero, List.set_cons_succ])
  refine wpAnyH_take (i := 2) (v := ?tv502) rfl (by kernel_rfl) (by kernel_rfl) (by kernel_rfl) (fun _ _ _ h => h) (Or.inl ⟨by rfl, ?hy502⟩) (by assumption) ?rs502
  case hy502 => (intro w9 hSw; (try dsimp only at hSw); go_simp; (try with_reducible rfl))
  (try simp only [Act.put, List.getElem_toArray, List.getElem_cons_zero, List.getElem_cons_succ, List.setIfInBounds_toArray, List.set_cons_zero, List.set_cons_succ])
  refine wpAnyH_ready (rs := [1]) (by kernel_rfl) (by simp) ?_
  refine AllReadyH.cons rfl (fun K hK => ?_) AllReadyH.nil
  go_simp
  go_wp2_with (first | (go_at_call 11; (refine Calls.mono (HMv.out _ hY) ?_); rintro e y1 ⟨rfl, hp1, hby⟩))
  have hq6 := hY.size
  have hY1 := Below.on hY hby
  refine hK.out _ _ (⟨cell_later hY1 t0, cell_later hY1 t1, cell_later hY1 t2⟩) (fun hHeld => ?_)
  clear hK K
  (try simp only [Act.put, List.getElem_toArray, List.getElem_cons_zero, List.getElem_cons_succ, List.setIfInBounds_toArray, List.set_cons_zero, List.set_cons_succ])
  refine wpAnyH_ready (rs := [3]) (by kernel_rfl) (by simp) ?_
  refine AllReadyH.cons rfl (fun K hK => ?_) AllReadyH.nil
  go_simp
  go_wp2_with (first | (go_at_call 13; (refine Calls.mono (HRw.out y1 _ _ hY1 hq6 hp1) ?_); rintro e y2 ⟨va, vm, vd, V, rfl, hrw, hov, hbv⟩))
  have hY2 : Below U5.heap.size U5 y2 := hbv.below hY1 hq6 hY1.size
  refine hK.out _ _ (⟨cell_later hY2 t0, cell_later hY2 t1, cell_later hY2 t2⟩) (fun hHeld => ?_)
  clear hK K
  (try simp only [Act.put, List.getElem_toArray, List.getElem_cons_zero, List.getElem_cons_succ, List.setIfInBounds_toArray, List.set_cons_zero, List.set_cons_succ])
  refine wpAnyH_ready (rs := [4]) (by kernel_rfl) (by simp) ?_
  refine AllReadyH.cons rfl (fun K hK => ?_) AllReadyH.nil
  go_simp
  refine hK.out _ _ (⟨cell_later hY2 t0, cell_later hY2 t1, cell_later hY2 t2⟩) (fun hHeld => ?_)
  clear hK K
  (try simp only [Act.put, List.getElem_toArray, List.getElem_cons_zero, List.getElem_cons_succ, List.setIfInBounds_toArray, List.set_cons_zero, List.set_cons_succ])
  refine wpAnyH_done (by kernel_rfl) ?_ _
  clear hHeld hY hY1 hp1 hby hbv
  obtain ⟨hCV, hKV, hVg⟩ := rw_vals hrw
  have rV : RowIs eVal (fun _ => True) y2 (.slice va vm vd) V := OwnR.rowE (e := eVal) hov (by simp) (fun _ _ _ => trivial) fun i h1 h2 => by
    show _ = _
    simp
  replace r1 : RowIs eItem (fun _ => True) y2 (.slice ia 3 ic) I0 := (r1.keep (by decide) fun b _ hl => hY2.block b hl).mono (by decide) fun _ _ _ => trivial
  replace hE4 := eG.keep (fun b _ hl => hY2.block b hl) hE4
  replace d0 := cell_later hY2 d0
  replace d1 := cell_later hY2 d1
  replace d2 := cell_later hY2 d2
  replace d3 := cell_later hY2 d3
  replace d4 := cell_later hY2 d4
  replace d5 := cell_later hY2 d5
  replace d6 := cell_later hY2 d6
  replace hw := Below.on hw hY2
  have hag := ag_any (C := I0) (K := K0) (V := V) hCV rfl hKV (gP t) hlf _ hkd
  have HEv : Hid (∀ w1, Below y2.heap.size y2 w1 → _) := hid fun w1 hb => evalV_any (by decide) hCV (fun v hv => (hVg v hv).1) (gP t) (wf_ft hwf) (evT_gd hVg hwf.2.1).2 (r1.keep (by decide) fun b _ hl => hb.block b hl) (rV.keep (by decide) fun b _ hl => hb.block b hl) (eG.keep (fun b _ hl => hb.block b hl) hE4)
  have HRf : Hid (∀ w1, Below y2.heap.size y2 w1 → _) := hid fun w1 hb => rv_any (by decide) hCV hVg (gP t) hwf _ w1 _ ia 3 ic va vm vd (r1.keep (by decide) fun b _ hl => hb.block b hl) (rV.keep (by decide) fun b _ hl => hb.block b hl) (eG.keep (fun b _ hl => hb.block b hl) hE4)
  have HHo : Hid (∀ w1, Below y2.heap.size y2 w1 → Calls Try.prog 16 #[.slice ia 3 ic, .slice va vm vd, .slice (some ⟨w1.heap.size, 0, none⟩) 1 1] (w1.alloc (.cells #[.int .i64 o, .int .i64 p.1, .int .i64 p.2.1, .string p.2.2.1, .string p.2.2.2.1, .string p.2.2.2.2, .slice ea en ec] 41)) _) := hid fun w1 hb => holdsV_any (Q := fun _ => True) (by decide) hCV (fun v hv => (hVg v hv).1) (gP t) (wf_ft hwf) (r1.keep (by decide) fun b _ hl => (bal hb (.cells #[.int .i64 o, .int .i64 p.1, .int .i64 p.2.1, .string p.2.2.1, .string p.2.2.2.1, .string p.2.2.2.2, .slice ea en ec] 41)).block b hl) (rV.keep (by decide) fun b _ hl => (bal hb (.cells #[.int .i64 o, .int .i64 p.1, .int .i64 p.2.1, .string p.2.2.1, .string p.2.2.2.1, .string p.2.2.2.2, .slice ea en ec] 41)).block b hl) (by
    have hc2 := cell_new w1 #[.int .i64 o, .int .i64 p.1, .int .i64 p.2.1, .string p.2.2.1, .string p.2.2.2.1, .string p.2.2.2.2, .slice ea en ec] 41 (0, 0)
    have hE5 := eG.mono (Q' := fun _ => True) (fun _ _ _ => trivial) (eG.keep (fun b _ hl => (bal hb (.cells #[.int .i64 o, .int .i64 p.1, .int .i64 p.2.1, .string p.2.2.1, .string p.2.2.2.1, .string p.2.2.2.2, .slice ea en ec] 41)).block b hl) hE4)
    exact ⟨_, 1, 1, rfl, rfl, Nat.le_refl _, by omega, fun _ => ⟨_, 0, rfl, trivial, fun i hi => by
      have hi' : i < 1 := hi
      match i, hi' with
      | 0, _ =>
        refine ⟨_, hE5, rfl, fun j hj => ?_⟩
        have hj' : j < 7 := hj
        match j, hj' with
        | 0, _ => exact hc2 0
        | 1, _ => exact hc2 1
        | 2, _ => exact hc2 2
        | 3, _ => exact hc2 3
        | 4, _ => exact hc2 4
        | 5, _ => exact hc2 5
        | 6, _ => exact hc2 6⟩⟩)
  have hhoE : (hoE I0 V (gP t)).1 = (decide ((rfT I0 V (gP t)).2 = 0) && decide ((rfT I0 V (gP t)).1.2.1 = 1)) ∧ (hoE I0 V (gP t)).2 = (rfT I0 V (gP t)).2 := by
    rw [← hag.1]
    unfold hoE
    by_cases h0 : (evT I0 V (gP t)).2 = 0
    · rw [nz_ok h0]; exact ⟨rfl, rfl⟩
    · rw [nz_er h0]
      refine ⟨?_, rfl⟩
      show (decide ((evT I0 V (gP t)).2 = 0) && _) = (decide ((evT I0 V (gP t)).2 = 0) && _)
      rw [show decide ((evT I0 V (gP t)).2 = 0) = false from by simpa using h0]
      rfl
  rw [evE_nz, hag.1] at HEv
  have HHE : Hid _ := hid hhoE
  clear hhoE hag hkd hnt hwf hlf hCV hKV hVg rV r1 hE4 hov hrw hcolT HMv HRw t0 t1 t2 hU24
  generalize rfT I0 V (gP t) = R at *
  generalize hoE I0 V (gP t) = G at *
  have hC := Below.refl y2.heap.size y2
  go_wp2_with fail
  refine Calls.mono (HEv.out _ hC) ?_
  rintro e w3 ⟨rfl, hb3⟩
  have hb4 := bal hb3 (.cells #[.int .i64 R.1.1, .int .i64 R.1.2.1, .string R.1.2.2] 38)
  have bA := Bk.new w3 (.cells #[.int .i64 R.1.1, .int .i64 R.1.2.1, .string R.1.2.2] 38)
  clear HEv
  go_upto_region 10 with fail
  generalize w3.alloc (.cells #[.int .i64 R.1.1, .int .i64 R.1.2.1, .string R.1.2.2] 38) = Z2 at *
  replace hC := Below.on hC hb4
  replace d0 := cell_later hb4 d0
  replace d1 := cell_later hb4 d1
  replace d2 := cell_later hb4 d2
  replace d3 := cell_later hb4 d3
  replace d4 := cell_later hb4 d4
  replace d5 := cell_later hb4 d5
  replace d6 := cell_later hb4 d6
  generalize w3.heap.size = qa at *
  clear hb3 hb4
  go_wp2_with fail
  refine Calls.mono (HRf.out _ hC) ?_
  rintro e w5 ⟨rfl, hb5⟩
  have hb6 := bal hb5 (.cells #[.int .i64 R.1.1, .int .i64 R.1.2.1, .string R.1.2.2] 38)
  have bA2 := bA.later hb6
  have bC := Bk.new w5 (.cells #[.int .i64 R.1.1, .int .i64 R.1.2.1, .string R.1.2.2] 38)
  clear HRf bA
  go_upto_region 11 with fail
  generalize w5.alloc (.cells #[.int .i64 R.1.1, .int .i64 R.1.2.1, .string R.1.2.2] 38) = Z3 at *
  replace hC := Below.on hC hb6
  replace d0 := cell_later hb6 d0
  replace d1 := cell_later hb6 d1
  replace d2 := cell_later hb6 d2
  replace d3 := cell_later hb6 d3
  replace d4 := cell_later hb6 d4
  replace d5 := cell_later hb6 d5
  replace d6 := cell_later hb6 d6
  generalize w5.heap.size = qb at *
  have a0 := bA2.cell 0
  have a1 := bA2.cell 1
  have a2 := bA2.cell 2
  have b0 := bC.cell 0
  have b1 := bC.cell 1
  have b2 := bC.cell 2
  simp only [List.getElem?_toArray, List.getElem?_cons_zero, List.getElem?_cons_succ] at a0 a1 a2 b0 b1 b2
  have hrq := fun w => runV_neq R.1.1 R.1.2.1 R.1.2.2 w
  clear hb5 hb6 bA2 bC
  by_cases hK2 : K = 2
  · subst hK2
    go_wp2_with fail
    refine Calls.mono (HHo.out _ hC) ?_
    rintro e w7 ⟨rfl, hb7⟩
    have hb8 := Below.on (bal (Below.refl _ Z3) (.cells #[.int .i64 o, .int .i64 p.1, .int .i64 p.2.1, .string p.2.2.1, .string p.2.2.2.1, .string p.2.2.2.2, .slice ea en ec] 41)) hb7
    replace hC := Below.on hw (Below.on hC hb8)
    replace b1 := cell_later hb8 b1
    obtain ⟨G1, G2⟩ := G
    obtain ⟨hG1, hG2⟩ := HHE.out
    dsimp only at hG1 hG2
    subst hG2
    clear HHo HHE hb7 hb8 a0 a1 a2 b0 b2 d0 d1 d2 d3 d4 d5 d6 hrq
    obtain ⟨DD, hD⟩ : ∃ DD, decide (R.1.2.1 = 1) = DD := ⟨_, rfl⟩
    have hD2 : (R.1.2.1 == 1) = DD := by rw [← hD]; rfl
    obtain ⟨⟨R0, R1, R2⟩, RE⟩ := R
    dsimp only at *
    rw [hD] at hG1
    by_cases h0 : RE = 0
    · subst h0
      obtain rfl : G1 = DD := by rw [hG1]; simp
      clear hG1
      go_wp2
      go_ret
      exact ⟨by first | rfl | simp, hC⟩
    · have g0 : decide (RE = 0) = false := by simpa using h0
      have g1 : (RE == 0) = false := by simpa using h0
      obtain rfl : G1 = false := by rw [hG1, g0]; rfl
      clear hG1
      go_wp2
      go_ret
      exact ⟨by first | rfl | simp, hC⟩
  · have hKd : decide ((K : Int) = 2) = false := by simp; omega
    have hKn : ((K : Int) != 2) = true := by simp; omega
    clear HHo HHE
    go_wp2
    go_ret
    exact ⟨rfl, Below.on hw hC⟩

end Go.Proofs.Ytbmfehacnigknaa
namespace Go.Proofs.Ytbmfehacnigknaa
open Go.ChangeShapes Go.WideShapes Go.ChangeAt Go.RowKit
set_option linter.unusedVariables false

theorem own : ownKnob Try.prog.godebug = none := by kernel_rfl
theorem laidOut : laidOutB Try.prog = true := by kernel_rfl

/-- A slice of whole numbers that came in: nil, or a row of cells with its spare room. -/
def IsRow (k : IntKind) (w : World) (a : Option Addr) (len cap : Nat) (zs : List Int) : Prop :=
  (a = none ∧ len = 0 ∧ cap = 0 ∧ zs = []) ∨
  ∃ x, a = some x ∧ len ≤ cap ∧ cap ≤ maxLen ∧ zs.length = cap ∧ (∀ i, i < zs.length → w.cell? (x.add i) = some (.int k (zs.getD i 0))) ∧ ∀ n ∈ zs, (Lit.int k n).wf = true

theorem Rd.of_row {k : IntKind} {w : World} {a : Option Addr} {len cap : Nat} {zs : List Int} (h : IsRow k w a len cap zs) : Rd k w a len cap (zs.take len) := by
  rcases h with ⟨rfl, rfl, rfl, rfl⟩ | ⟨x, rfl, hl, hm, hz, hc, hw⟩
  · exact Rd.nil k w
  · refine ⟨by simp; omega, hl, hm, fun e => by simp at e, fun hp => ?_⟩
    obtain ⟨b, off, spot⟩ := x
    have h0 := hc 0 (by omega)
    have hspot : spot = none := by simpa [Addr.add] using World.cell?_spot h0
    subst hspot
    refine ⟨b, off, rfl, fun i hi => ?_⟩
    have hi' := hc i (by omega)
    rw [show (⟨b, off, none⟩ : Addr).add i = ⟨b, off + i, none⟩ from by simp [Addr.add]] at hi'
    rw [hi', nth, List.getElem?_take_of_lt hi, List.getD]

/-- Its numbers fit their kind. -/
theorem row_wf {k : IntKind} {w : World} {a : Option Addr} {len cap : Nat} {zs : List Int} (h : IsRow k w a len cap zs) : ∀ n ∈ zs.take len, (Lit.int k n).wf = true := by
  rcases h with ⟨rfl, rfl, rfl, rfl⟩ | ⟨x, rfl, hl, hm, hz, hc, hw⟩
  · intro n hn; simp at hn
  · exact fun n hn => hw n (List.mem_of_mem_take hn)

theorem u8_of_row {w : World} {a : Option Addr} {len cap : Nat} {zs : List Int} (h : IsRow .u8 w a len cap zs) : ∀ x ∈ zs.take len, 0 ≤ x ∧ x ≤ 255 :=
  fun x hx => bounds_u8 (row_wf h x hx)

/-- A byte that came in. -/
theorem u8_is {a : Int} (h : (Lit.int .u8 a).wf = true) : ∃ x : UInt8, a = (x.toNat : Int) := by
  have := bounds_u8 h
  refine ⟨UInt8.ofNat a.toNat, ?_⟩
  rw [UInt8.toNat_ofNat']
  omega

end Go.Proofs.Ytbmfehacnigknaa
