import Derived.Test.YtnboooaockgoiaaGreatDoorAal
import Derived.Test.YtnboooaockgoiaaGreatDoorAam
namespace Go.Proofs.YtnboooaockgoiaaGreatDoor
open Go.RowKit
set_option linter.unusedVariables false
set_option linter.unusedSimpArgs false

theorem coB_size (t n : ByteArray) : (coB t n).size ≤ t.size + n.size + 1 := by
  rw [coB]
  split
  · omega
  · rw [ByteArray.size_append, ByteArray.size_append]
    have : (⟨#[46]⟩ : ByteArray).size = 1 := rfl
    omega
theorem aggW_size (g : Int) : (aggW g).size = 3 := by
  unfold aggW
  split
  · rfl
  · split <;> rfl
theorem itB_size (s : ByteArray) (x : It) (h1 : x.2.1.size ≤ 1000) (h2 : x.2.2.size ≤ 1000) : (itB s x).size ≤ s.size + 2008 := by
  have hc := coB_size x.2.1 x.2.2
  rw [itB]
  split
  · rw [ByteArray.size_append]; omega
  · split
    · rw [ByteArray.size_append]
      have : (⟨#[99, 111, 117, 110, 116, 40, 42, 41]⟩ : ByteArray).size = 8 := rfl
      omega
    · rw [ByteArray.size_append, ByteArray.size_append, ByteArray.size_append, ByteArray.size_append, aggW_size]
      have e1 : (⟨#[40]⟩ : ByteArray).size = 1 := rfl
      have e2 : (⟨#[41]⟩ : ByteArray).size = 1 := rfl
      omega
theorem aggW_txN {g : Int} (j : Nat) (hj : j < 3) (hg : g = (j : Int) + 2) : txN [⟨#[115, 117, 109]⟩, ⟨#[109, 105, 110]⟩, ⟨#[109, 97, 120]⟩] j = aggW g := by
  subst hg
  match j, hj with
  | 0, _ => rfl
  | 1, _ => rfl
  | 2, _ => rfl
/-- One item more. -/
theorem sel_step {l : List It} {k : Nat} (hk : k < l.length) (S0 S : ByteArray) (hS : S = joP ⟨#[44, 32]⟩ itB S0 (l.take k)) (h0 : k = 0 → S = S0) : itB (if k = 0 then S else S ++ ⟨#[44, 32]⟩) l[k] = joP ⟨#[44, 32]⟩ itB S0 (l.take (k + 1)) := by
  rw [joP_step hk]
  split
  · rename_i e; rw [h0 e]
  · rw [hS]

set_option maxRecDepth 100000 in
set_option maxHeartbeats 20000000 in
theorem fSelected_any (hE : ∀ t, ShowOK t) {m : Sm} {s : Sv} {Q : Nat → Prop} {w : World}
    (hit : ∀ x ∈ m.items, (x.1 = 0 ∨ x.1 = 1 ∨ x.1 = 2 ∨ x.1 = 3 ∨ x.1 = 4) ∧ x.2.1.size ≤ 1000 ∧ x.2.2.size ≤ 1000) (hl : m.items.length ≤ 100) (htb : m.table.size ≤ 1000)
    (hjn : (m.join = ⟨#[]⟩ ∧ m.on = []) ∨ (m.join ≠ ⟨#[]⟩ ∧ m.join.size ≤ 1000 ∧ ∃ a b, m.on = [a, b] ∧ WfT a ∧ WfT b ∧ (shE a).size ≤ 10000 ∧ (shE b).size ≤ 10000))
    (hwh : ∀ t ∈ m.wh, WfT t) (hwz : (whB m.wh).size ≤ 100000) (hod : (m.order = [] ∧ m.desc = false) ∨ ∃ a, m.order = [a] ∧ WfT a ∧ (shE a).size ≤ 10000) (h : IsS Q w m s) :
    Calls Tryz.prog 35 #[stV s] w fun e w' => e = .returned (.string (selB m)) ∧ Below w.heap.size w w' := by
  have hnum := h.it.num
  have hjnE := h.jn
  have hdsE := h.ds
  have htbE := h.tb
  have hnW := h.wh.num
  have hnO := h.od.num
  have hnN := h.on.num
  have HK : Hid (∀ k (hk : k < m.items.length), ∀ w1, Below w.heap.size w w1 → ∃ (b o : Nat) (ag : Int) (t n : ByteArray), s.it.1 = some ⟨b, o, none⟩ ∧ m.items[k] = (ag, t, n) ∧ (w1.cell? ⟨b, o + k * 3, none⟩ = some (.int .i64 ag) ∧ w1.cell? ⟨b, o + k * 3 + 1, none⟩ = some (.string t) ∧ w1.cell? ⟨b, o + k * 3 + 2, none⟩ = some (.string n)) ∧ (ag = 0 ∨ ag = 1 ∨ ag = 2 ∨ ag = 3 ∨ ag = 4) ∧ t.size ≤ 1000 ∧ n.size ≤ 1000) := hid fun k hk w1 hb => by
    obtain ⟨b, o, e1, -, q0, q1, q2⟩ := RowIs.item1 h.it hk
    obtain ⟨x1, x2, x3⟩ := hit _ (List.getElem_mem hk)
    exact ⟨b, o, _, _, _, e1, rfl, ⟨cell_later hb q0, cell_later hb q1, cell_later hb q2⟩, x1, x2, x3⟩
  have HW : Hid (∀ w1, Below w.heap.size w w1 → _) := hid fun w1 hb => fWhereS_any (w := w1) hE hwh (h.wh.later (by decide) hb) (by omega)
  have HO : Hid (∀ a, m.order = [a] → WfT a → (shE a).size ≤ 10000 → ∀ w1, Below w.heap.size w w1 → ∃ b o op p a' n' c', s.od.1 = some ⟨b, o, none⟩ ∧ Ce w1 b o op p (.slice a' n' c') ∧ ∀ w2, Below w.heap.size w w2 → Calls Tryz.prog 13 #[exV op p (.slice a' n' c')] w2 fun e w' => e = .returned (.string (shE a)) ∧ Below w2.heap.size w2 w') := hid fun a ha hwf hz w1 hb => by
    have hr : RowIs eExpr Q w (slV s.od) [a] := by rw [← ha]; exact h.od
    obtain ⟨b, o, op, p, a', n', c', e1, q1, x1⟩ := hr.at (k := 0) (by simp)
    rw [Nat.zero_mul, Nat.add_zero] at q1
    exact ⟨b, o, op, p, a', n', c', e1, q1.keep (hb.block _ q1.lt), fun w2 hb2 => hE a hwf (by omega) _ w2 _ (x1.later hb2)⟩
  have HJ : Hid (∀ a b, m.on = [a, b] → WfT a → WfT b → (shE a).size ≤ 10000 → (shE b).size ≤ 10000 → ∃ bb o op p a' n' c' op2 p2 a2 n2 c2, s.on.1 = some ⟨bb, o, none⟩ ∧ (∀ w1, Below w.heap.size w w1 → Ce w1 bb o op p (.slice a' n' c') ∧ Ce w1 bb (o + 7) op2 p2 (.slice a2 n2 c2)) ∧ ∀ w2, Below w.heap.size w w2 → Calls Tryz.prog 13 #[exV op p (.slice a' n' c')] w2 (fun e w' => e = .returned (.string (shE a)) ∧ Below w2.heap.size w2 w') ∧ Calls Tryz.prog 13 #[exV op2 p2 (.slice a2 n2 c2)] w2 fun e w' => e = .returned (.string (shE b)) ∧ Below w2.heap.size w2 w') := hid fun a b ha hwa hwb hza hzb => by
    have hr : RowIs eExpr Q w (slV s.on) [a, b] := by rw [← ha]; exact h.on
    obtain ⟨b1, o, op, p, a', n', c', e1, q1, x1⟩ := hr.at (k := 0) (by simp)
    obtain ⟨b2, o2, op2, p2, a2, n2, c2, e2, q2, x2⟩ := hr.at (k := 1) (by simp)
    rw [e1] at e2
    cases e2
    rw [Nat.zero_mul, Nat.add_zero] at q1
    rw [Nat.one_mul] at q2
    exact ⟨b1, o, op, p, a', n', c', op2, p2, a2, n2, c2, e1, fun w1 hb => ⟨q1.keep (hb.block _ q1.lt), q2.keep (hb.block _ q2.lt)⟩, fun w2 hb2 => ⟨hE a hwa (by omega) _ w2 _ (x1.later hb2), hE b hwb (by omega) _ w2 _ (x2.later hb2)⟩⟩
  have HR : Hid (∀ S, S = joP ⟨#[44, 32]⟩ itB (if m.items = [] then ⟨#[115, 101, 108, 101, 99, 116, 32]⟩ ++ ⟨#[42]⟩ else ⟨#[115, 101, 108, 101, 99, 116, 32]⟩) (m.items.take m.items.length) → ordB (joinB ((S ++ ⟨#[32, 102, 114, 111, 109, 32]⟩) ++ m.table) m.join m.on ++ whB m.wh) m.desc m.order = selB m) := hid fun S hS => by
    rw [hS, List.take_length]; rfl
  clear h hit hwh
  rw [← htbE] at htb
  rw [← hjnE] at hjn
  rw [← hdsE] at hod
  rw [← htbE, ← hjnE, ← hdsE] at HR
  clear htbE hjnE hdsE
  generalize selB m = RR at *
  generalize whB m.wh = WB at *
  obtain ⟨k0, tb, nm, ⟨coa, con, coc⟩, ⟨taa, tan, tac⟩, ⟨vaa, van, vac⟩, ⟨ita, itn, itc⟩, jn, ⟨ona, onn, onc⟩, ⟨wha, whn, whc⟩, ⟨oda, odn, odc⟩, ds, ⟨inna, innn, innc⟩⟩ := s
  simp only at hnum htb hjn hod HK HW HO HJ HR hnW hnO hnN
  obtain ⟨hn1, hn2, hn3⟩ := hnum
  have hnl : itn ≤ 100 := by omega
  obtain ⟨S0, hS0, hs0⟩ : ∃ S0 : ByteArray, S0 = (if m.items = [] then ⟨#[115, 101, 108, 101, 99, 116, 32]⟩ ++ ⟨#[42]⟩ else ⟨#[115, 101, 108, 101, 99, 116, 32]⟩) ∧ S0.size ≤ 10 := by
    refine ⟨_, rfl, ?_⟩
    split <;> decide
  have HS0 : Hid _ := hid hS0
  have HRR : Hid (∀ S, S = joP ⟨#[44, 32]⟩ itB S0 (m.items.take itn) → ordB (joinB ((S ++ ⟨#[32, 102, 114, 111, 109, 32]⟩) ++ tb) jn m.on ++ WB) ds m.order = RR) := hid fun S hS => HR.out S (by rw [hS, hS0, hn1])
  clear hS0 HR
  have HN1 : Hid (itn = m.items.length) := hid hn1
  have HNO : Hid _ := hid hnO
  have HNN : Hid _ := hid hnN
  clear hn1 hnO hnN hnW hl
  unfold stV
  have bB : Bs (w.alloc (.cells #[.int .i64 k0, .string tb, .string nm, .slice coa con coc, .slice taa tan tac, .slice vaa van vac, .slice ita itn itc, .string jn, .slice ona onn onc, .slice wha whn whc, .slice oda odn odc, .bool ds, .slice inna innn innc] 48)) w.heap.size (⟨k0, tb, nm, (coa, con, coc), (taa, tan, tac), (vaa, van, vac), (ita, itn, itc), jn, (ona, onn, onc), (wha, whn, whc), (oda, odn, odc), ds, (inna, innn, innc)⟩ : Sv) := Bs.new w (⟨k0, tb, nm, (coa, con, coc), (taa, tan, tac), (vaa, van, vac), (ita, itn, itc), jn, (ona, onn, onc), (wha, whn, whc), (oda, odn, odc), ds, (inna, innn, innc)⟩ : Sv)
  have hB2 := bal (Below.refl _ w) (.cells #[.int .i64 k0, .string tb, .string nm, .slice coa con coc, .slice taa tan tac, .slice vaa van vac, .slice ita itn itc, .string jn, .slice ona onn onc, .slice wha whn whc, .slice oda odn odc, .bool ds, .slice inna innn innc] 48)
  simp only
  go_enter Tryz.func35, Tryz.ntmps35
  go_upto_if 9 with fail
  generalize w.alloc (.cells #[.int .i64 k0, .string tb, .string nm, .slice coa con coc, .slice taa tan tac, .slice vaa van vac, .slice ita itn itc, .string jn, .slice ona onn onc, .slice wha whn whc, .slice oda odn odc, .bool ds, .slice inna innn innc] 48) = W at *
  have HB2 : Hid (∀ w', Below W.heap.size W w' → Below w.heap.size w w') := hid fun w' hb => Below.on hB2 hb
  generalize hqa : w.heap.size = qa at *
  go_cut [3] (fun v3 w' => v3 = .string S0 ∧ W = w')
  case first =>
    clear HK HW HO HJ HRR HB2 bB hB2 hjn hod
    by_cases hN : itn = 0
    · subst hN
      have HE : Hid (m.items = []) := hid (List.eq_nil_of_length_eq_zero HN1.out.symm)
      go_wp2_with fail
      go_meet
      refine ⟨?_, rfl⟩
      rw [HS0.out, if_pos HE.out]
    · have HE : Hid (m.items ≠ []) := hid fun e => hN (by rw [HN1.out, e]; rfl)
      have gN : ((itn : Int) == 0) = false := by simp; omega
      go_wp2_with fail
      go_meet
      refine ⟨?_, rfl⟩
      rw [HS0.out, if_neg HE.out]
  case rest =>
  obtain ⟨rfl, hwc⟩ := hcut
  subst hwc
  clear HS0
  go_wp2
  go_loopw [3, 4] (fun o i wr => ∃ (k : Nat) (S : ByteArray), k ≤ itn ∧ o = .string S ∧ i = .int .i64 k ∧ S.size ≤ 10 + k * 2010 ∧ Hid (S = joP ⟨#[44, 32]⟩ itB S0 (m.items.take k)) ∧ Hid (k = 0 → S = S0) ∧ Below W.heap.size W wr) (fun _ i _ => itn - (intOf i).toNat)
  case atStart => exact ⟨0, S0, Nat.zero_le _, rfl, rfl, by omega, hid rfl, hid fun _ => rfl, Below.refl _ _⟩
  case round =>
    obtain ⟨k, S, hk, rfl, rfl, hzS, HS, HS1, hb⟩ := hrel
    by_cases hlt : k < itn
    · obtain ⟨b, o, ag, t, n, rfl, hxe, ⟨q0, q1, q2⟩, hag, hzt, hzn⟩ := HK.out k (by rw [← HN1.out]; exact hlt) wr (HB2.out _ hb)
      have hstep := sel_step (l := m.items) (k := k) (by rw [← HN1.out]; exact hlt) S0 S HS.out HS1.out
      rw [hxe] at hstep
      obtain ⟨S1, hS1, hs1⟩ : ∃ S1 : ByteArray, S1 = (if k = 0 then S else S ++ ⟨#[44, 32]⟩) ∧ S1.size ≤ 12 + k * 2010 := by
        refine ⟨_, rfl, ?_⟩
        split
        · omega
        · rw [ByteArray.size_append]
          have : (⟨#[44, 32]⟩ : ByteArray).size = 2 := rfl
          omega
      have HST : Hid (itB S1 (ag, t, n) = joP ⟨#[44, 32]⟩ itB S0 (m.items.take (k + 1))) := hid (by rw [hS1]; exact hstep)
      have HZ : Hid ((itB S1 (ag, t, n)).size ≤ S1.size + 2008) := hid (itB_size S1 (ag, t, n) hzt hzn)
      have HS1' : Hid _ := hid hS1
      have box := bB.later hb
      have y6 : wr.cell? ⟨qa, 6, none⟩ = some (.slice (some ⟨b, o, none⟩) itn itc) := box.cells.2.2.2.2.2.2.1
      have hbl := box.lt
      have i0 : (0 : Int) ≤ (k : Int) := by omega
      have i1 : (k : Int) < (itn : Int) := by omega
      have gk : decide ((k : Int) < (itn : Int)) = true := by simpa using hlt
      have hk2010 : k * 2010 ≤ 201000 := by omega
      clear hstep hS1 HS HS1 HK HW HO HJ HRR hxe hjn hod
      go_upto_if 20 with fail
      go_cut [3] (fun v3 w' => v3 = .string S1 ∧ wr = w')
      case first =>
        clear HST HZ
        by_cases h0 : k = 0
        · subst h0
          have e := HS1'.out
          rw [if_pos rfl] at e
          subst e
          go_wp2_with fail
          go_meet
          exact ⟨rfl, rfl⟩
        · have g0 : decide ((0 : Int) < (k : Int)) = true := by simp; omega
          have z0 : ¬ 9223372036854775807 < S.size + 2 := by omega
          go_wp2_with fail
          go_meet
          refine ⟨?_, rfl⟩
          rw [HS1'.out, if_neg h0]
      case rest =>
      obtain ⟨rfl, hwc⟩ := hcut
      subst hwc
      clear HS1' hzS
      have T2 := bal (Below.refl _ wr) (.cells #[.int .i64 ag, .string t, .string n] 64)
      have c0 : (wr.alloc (.cells #[.int .i64 ag, .string t, .string n] 64)).cell? ⟨wr.heap.size, 0, none⟩ = some (.int .i64 ag) := cell_new wr _ _ _ 0
      have c1 : (wr.alloc (.cells #[.int .i64 ag, .string t, .string n] 64)).cell? ⟨wr.heap.size, 1, none⟩ = some (.string t) := cell_new wr _ _ _ 1
      have c2 : (wr.alloc (.cells #[.int .i64 ag, .string t, .string n] 64)).cell? ⟨wr.heap.size, 2, none⟩ = some (.string n) := cell_new wr _ _ _ 2
      have hB9 := Below.on hb T2
      go_upto_region 12 with fail
      generalize wr.alloc (.cells #[.int .i64 ag, .string t, .string n] 64) = W9 at *
      have hbx : wr.heap.size < W9.heap.size := World.block_lt_of_cell? _ _ c0
      generalize wr.heap.size = bx at *
      clear T2 hb q0 q1 q2 y6 box hbl bB
      have HC : Hid (∀ w1, _) := hid fun w1 => fCol2_any t n (by omega) (by omega) w1
      have hzc := coB_size t n
      by_cases ha0 : ag = 0
      · subst ha0
        have HT : Hid (itB S1 (0, t, n) = S1 ++ coB t n) := hid rfl
        generalize coB t n = D at *
        have z0 : ¬ 9223372036854775807 < S1.size + D.size := by omega
        go_wp2_with fail
        refine Calls.mono (HC.out _) ?_
        rintro e u ⟨rfl, hbu⟩
        have hBu := Below.on hB9 hbu
        clear HC hbu hB9 c0 c1 c2 hag
        go_wp2
        go_roundw
        case rel => exact ⟨k + 1, S1 ++ D, by omega, rfl, by go_num, by have := HZ.out; rw [HT.out] at this; omega, hid (by rw [← HT.out]; exact HST.out), hid (fun e => absurd e (by omega)), hBu⟩
        case measure => simp only [intOf]; omega
      have ga0 : (ag == 0) = false := by simpa using ha0
      by_cases ha1 : ag = 1
      · subst ha1
        have HT : Hid (itB S1 (1, t, n) = S1 ++ ⟨#[99, 111, 117, 110, 116, 40, 42, 41]⟩) := hid rfl
        have z0 : ¬ 9223372036854775807 < S1.size + 8 := by omega
        clear HC c1 c2 hag
        go_wp2
        go_roundw
        case rel => exact ⟨k + 1, S1 ++ ⟨#[99, 111, 117, 110, 116, 40, 42, 41]⟩, by omega, rfl, by go_num, by have := HZ.out; rw [HT.out] at this; omega, hid (by rw [← HT.out]; exact HST.out), hid (fun e => absurd e (by omega)), hB9⟩
        case measure => simp only [intOf]; omega
      have ga1 : (ag == 1) = false := by simpa using ha1
      obtain ⟨ja, hja, hja2⟩ : ∃ ja : Nat, ja < 3 ∧ ag = (ja : Int) + 2 := ⟨(ag - 2).toNat, by omega, by omega⟩
      have HT : Hid (itB S1 (ag, t, n) = (((S1 ++ txN [⟨#[115, 117, 109]⟩, ⟨#[109, 105, 110]⟩, ⟨#[109, 97, 120]⟩] ja) ++ ⟨#[40]⟩) ++ coB t n) ++ ⟨#[41]⟩) := hid (by
        rw [aggW_txN ja hja hja2, itB, if_neg ha0, if_neg ha1])
      have hzA : (txN [⟨#[115, 117, 109]⟩, ⟨#[109, 105, 110]⟩, ⟨#[109, 97, 120]⟩] ja).size = 3 := by rw [aggW_txN ja hja hja2]; exact aggW_size ag
      subst hja2
      have hw : IntKind.i64.wrap ((ja : Int) + 2 - 2) = (ja : Int) := by rw [IntKind.wrap_i64]; omega
      have hsub : ((ja : Int) + 2 - 2) = (ja : Int) := by omega
      have hwj : IntKind.i64.wrap (ja : Int) = (ja : Int) := by rw [IntKind.wrap_i64]; omega
      have ija : (0 : Int) ≤ (ja : Int) := by omega
      have jja : (ja : Int) < 3 := by omega
      obtain ⟨A, hA⟩ : ∃ A, txN [⟨#[115, 117, 109]⟩, ⟨#[109, 105, 110]⟩, ⟨#[109, 97, 120]⟩] ja = A := ⟨_, rfl⟩
      have HTx : Hid (∀ w1 bb, Txt w1 bb [⟨#[115, 117, 109]⟩, ⟨#[109, 105, 110]⟩, ⟨#[109, 97, 120]⟩] → w1.cell? ⟨bb, ja, none⟩ = some (.string A)) := hid fun w1 bb ht => by rw [← hA]; exact ht.cell ja hja
      rw [hA] at HT hzA
      have hzA3 : A.size ≤ 3 := by omega
      clear hzA
      clear hA hag ha0 ha1
      generalize coB t n = D at *
      have z0 : ¬ 9223372036854775807 < S1.size + A.size := by omega
      have z1 : ¬ 9223372036854775807 < S1.size + A.size + 1 := by omega
      have z2 : ¬ 9223372036854775807 < S1.size + A.size + 1 + D.size := by omega
      have z3 : ¬ 9223372036854775807 < S1.size + A.size + 1 + D.size + 1 := by omega
      have HK9 : Hid (∀ w', Below W9.heap.size W9 w' → w'.cell? ⟨bx, 0, none⟩ = some (.int .i64 ((ja : Int) + 2)) ∧ w'.cell? ⟨bx, 1, none⟩ = some (.string t) ∧ w'.cell? ⟨bx, 2, none⟩ = some (.string n)) := hid fun w' hb => ⟨cell_later hb c0, cell_later hb c1, cell_later hb c2⟩
      have hD : Below W9.heap.size W9 W9.drew := (Below.refl _ W9).drew
      clear c0 c1 c2
      go_upto_region 11 with fail
      refine wp_region_held_drew (S := (fun w' => w'.cell? ⟨bx, 0, none⟩ = some (.int .i64 ((ja : Int) + 2)) ∧ w'.cell? ⟨bx, 1, none⟩ = some (.string t) ∧ w'.cell? ⟨bx, 2, none⟩ = some (.string n))) (by kernel_rfl) (HK9.out _ hD) (fun hHeld => ?_)
      refine wpAnyH_take (i := 0) (v := ?tv1) rfl (by kernel_rfl) (by kernel_rfl) (by kernel_rfl) (fun _ _ _ h => h) (Or.inl ⟨by rfl, ?hy1⟩) (by assumption) ?rs1
      case hy1 => (intro w9 hSw; (try dsimp only at hSw); go_simp; (try with_reducible rfl))
      (try simp only [Act.put, List.setIfInBounds_toArray, List.set_cons_zero, List.set_cons_succ])
      refine wpAnyH_take (i := 2) (v := ?tv2) rfl (by kernel_rfl) (by kernel_rfl) (by kernel_rfl) (fun _ _ _ h => h) (Or.inl ⟨by rfl, ?hy2⟩) (by assumption) ?rs2
      case hy2 => (intro w9 hSw; (try dsimp only at hSw); go_simp; (try with_reducible rfl))
      (try simp only [Act.put, List.setIfInBounds_toArray, List.set_cons_zero, List.set_cons_succ])
      refine wpAnyH_take (i := 3) (v := ?tv3) rfl (by kernel_rfl) (by kernel_rfl) (by kernel_rfl) (fun _ _ _ h => h) (Or.inl ⟨by rfl, ?hy3⟩) (by assumption) ?rs3
      case hy3 => (intro w9 hSw; (try dsimp only at hSw); go_simp; (try with_reducible rfl))
      (try simp only [Act.put, List.setIfInBounds_toArray, List.set_cons_zero, List.set_cons_succ])
      refine wpAnyH_take (i := 4) (v := ?tv4) rfl (by kernel_rfl) (by kernel_rfl) (by kernel_rfl) (fun _ _ _ h => h) (Or.inl ⟨by rfl, ?hy4⟩) (by assumption) ?rs4
      case hy4 => (intro w9 hSw; (try dsimp only at hSw); go_simp; (try with_reducible rfl))
      (try simp only [Act.put, List.setIfInBounds_toArray, List.set_cons_zero, List.set_cons_succ])
      refine wpAnyH_take (i := 9) (v := ?tv5) rfl (by kernel_rfl) (by kernel_rfl) (by kernel_rfl) (fun _ _ _ h => h) (Or.inl ⟨by rfl, ?hy5⟩) (by assumption) ?rs5
      case hy5 => (intro w9 hSw; (try dsimp only at hSw); go_simp; (try with_reducible rfl))
      (try simp only [Act.put, List.setIfInBounds_toArray, List.set_cons_zero, List.set_cons_succ])
      refine wpAnyH_take (i := 10) (v := ?tv6) rfl (by kernel_rfl) (by kernel_rfl) (by kernel_rfl) (fun _ _ _ h => h) (Or.inl ⟨by rfl, ?hy6⟩) (by assumption) ?rs6
      case hy6 => (intro w9 hSw; (try dsimp only at hSw); go_simp; (try with_reducible rfl))
      (try simp only [Act.put, List.setIfInBounds_toArray, List.set_cons_zero, List.set_cons_succ])
      refine wpAnyH_take (i := 11) (v := ?tv7) rfl (by kernel_rfl) (by kernel_rfl) (by kernel_rfl) (fun _ _ _ h => h) (Or.inl ⟨by rfl, ?hy7⟩) (by assumption) ?rs7
      case hy7 => (intro w9 hSw; (try dsimp only at hSw); go_simp; (try with_reducible rfl))
      (try simp only [Act.put, List.setIfInBounds_toArray, List.set_cons_zero, List.set_cons_succ])
      refine wpAnyH_take (i := 12) (v := ?tv8) rfl (by kernel_rfl) (by kernel_rfl) (by kernel_rfl) (fun _ _ _ h => h) (Or.inl ⟨by rfl, ?hy8⟩) (by assumption) ?rs8
      case hy8 => (intro w9 hSw; (try dsimp only at hSw); go_simp; (try with_reducible rfl))
      (try simp only [Act.put, List.setIfInBounds_toArray, List.set_cons_zero, List.set_cons_succ])
      refine wpAnyH_ready (rs := [1, 13]) (by kernel_rfl) (by simp) ?_
      refine AllReadyH.cons rfl (fun K hK => ?_) (AllReadyH.cons rfl (fun K hK => ?_) AllReadyH.nil)
      · go_simp
        have hBa : Below W9.heap.size W9 (W9.alloc (.cells #[.string ⟨#[115, 117, 109]⟩, .string ⟨#[109, 105, 110]⟩, .string ⟨#[109, 97, 120]⟩] 9 (0, 0))).drew := bal hD _
        have htx : Txt (W9.alloc (.cells #[.string ⟨#[115, 117, 109]⟩, .string ⟨#[109, 105, 110]⟩, .string ⟨#[109, 97, 120]⟩] 9 (0, 0))).drew W9.heap.size [⟨#[115, 117, 109]⟩, ⟨#[109, 105, 110]⟩, ⟨#[109, 97, 120]⟩] := Txt.new3 W9.drew ⟨#[115, 117, 109]⟩ ⟨#[109, 105, 110]⟩ ⟨#[109, 97, 120]⟩
        have HSa : Hid _ := hid (HK9.out _ hBa)
        generalize (W9.alloc (.cells #[.string ⟨#[115, 117, 109]⟩, .string ⟨#[109, 105, 110]⟩, .string ⟨#[109, 97, 120]⟩] 9 (0, 0))).drew = V at *
        generalize hgb : W9.heap.size = bS at htx ⊢
        clear hgb
        refine hK.out _ _ (HSa.out) (fun hHeld => ?_)
        clear hK K
        (try simp only [Act.put, List.setIfInBounds_toArray, List.set_cons_zero, List.set_cons_succ])
        have hHeld9 : (fun w' => Txt w' bS [⟨#[115, 117, 109]⟩, ⟨#[109, 105, 110]⟩, ⟨#[109, 97, 120]⟩] ∧ w'.cell? ⟨bx, 0, none⟩ = some (.int .i64 ((ja : Int) + 2)) ∧ w'.cell? ⟨bx, 1, none⟩ = some (.string t) ∧ w'.cell? ⟨bx, 2, none⟩ = some (.string n)) V := ⟨htx, HSa.out⟩
        clear hHeld
        refine wpAnyH_str (S' := fun w' => Txt w' bS [⟨#[115, 117, 109]⟩, ⟨#[109, 105, 110]⟩, ⟨#[109, 97, 120]⟩] ∧ w'.cell? ⟨bx, 0, none⟩ = some (.int .i64 ((ja : Int) + 2)) ∧ w'.cell? ⟨bx, 1, none⟩ = some (.string t) ∧ w'.cell? ⟨bx, 2, none⟩ = some (.string n)) (fun w h => h.2) _ _ _ _ ?_
        have hHeld := hHeld9
        clear hHeld9
        refine wpAnyH_take (i := 5) (v := ?tv9) rfl (by kernel_rfl) (by kernel_rfl) (by kernel_rfl) (fun _ _ _ h => h) (Or.inl ⟨by rfl, ?hy9⟩) (by assumption) ?rs9
        case hy9 => (intro w9 hSw; (try dsimp only at hSw); go_simp; (try with_reducible rfl))
        (try simp only [Act.put, List.setIfInBounds_toArray, List.set_cons_zero, List.set_cons_succ])
        refine wpAnyH_take (i := 6) (v := ?tv10) rfl (by kernel_rfl) (by kernel_rfl) (by kernel_rfl) (fun _ _ _ h => h) (Or.inl ⟨by rfl, ?hy10⟩) (by assumption) ?rs10
        case hy10 => (intro w9 hSw; (try dsimp only at hSw); have bl9 := hSw.1.lt; have c9 := HTx.out _ _ hSw.1; go_simp; (try with_reducible rfl))
        (try simp only [Act.put, List.setIfInBounds_toArray, List.set_cons_zero, List.set_cons_succ])
        refine wpAnyH_take (i := 7) (v := ?tv11) rfl (by kernel_rfl) (by kernel_rfl) (by kernel_rfl) (fun _ _ _ h => h) (Or.inl ⟨by rfl, ?hy11⟩) (by assumption) ?rs11
        case hy11 => (intro w9 hSw; (try dsimp only at hSw); go_simp; (try with_reducible rfl))
        (try simp only [Act.put, List.setIfInBounds_toArray, List.set_cons_zero, List.set_cons_succ])
        refine wpAnyH_take (i := 8) (v := ?tv12) rfl (by kernel_rfl) (by kernel_rfl) (by kernel_rfl) (fun _ _ _ h => h) (Or.inl ⟨by rfl, ?hy12⟩) (by assumption) ?rs12
        case hy12 => (intro w9 hSw; (try dsimp only at hSw); go_simp; (try with_reducible rfl))
        (try simp only [Act.put, List.setIfInBounds_toArray, List.set_cons_zero, List.set_cons_succ])
        refine wpAnyH_ready (rs := [13]) (by kernel_rfl) (by simp) ?_
        refine AllReadyH.cons rfl (fun K hK => ?_) AllReadyH.nil
        go_simp
        go_wp2_with (first | (go_at_call 30; refine Calls.mono (HC.out _) ?_; rintro e u ⟨rfl, hbu⟩))
        have hBu := Below.on hBa hbu
        have htxu := htx.later hbu
        refine hK.out _ _ (⟨htxu, HK9.out _ hBu⟩) (fun hHeld => ?_)
        clear hK K
        (try simp only [Act.put, List.setIfInBounds_toArray, List.set_cons_zero, List.set_cons_succ])
        refine wpAnyH_take (i := 14) (v := ?tv13) rfl (by kernel_rfl) (by kernel_rfl) (by kernel_rfl) (fun _ _ _ h => h) (Or.inl ⟨by rfl, ?hy13⟩) (by assumption) ?rs13
        case hy13 => (intro w9 hSw; (try dsimp only at hSw); go_simp; (try with_reducible rfl))
        (try simp only [Act.put, List.setIfInBounds_toArray, List.set_cons_zero, List.set_cons_succ])
        refine wpAnyH_take (i := 15) (v := ?tv14) rfl (by kernel_rfl) (by kernel_rfl) (by kernel_rfl) (fun _ _ _ h => h) (Or.inl ⟨by rfl, ?hy14⟩) (by assumption) ?rs14
        case hy14 => (intro w9 hSw; (try dsimp only at hSw); go_simp; (try with_reducible rfl))
        (try simp only [Act.put, List.setIfInBounds_toArray, List.set_cons_zero, List.set_cons_succ])
        refine wpAnyH_take (i := 16) (v := ?tv15) rfl (by kernel_rfl) (by kernel_rfl) (by kernel_rfl) (fun _ _ _ h => h) (Or.inl ⟨by rfl, ?hy15⟩) (by assumption) ?rs15
        case hy15 => (intro w9 hSw; (try dsimp only at hSw); go_simp; (try with_reducible rfl))
        (try simp only [Act.put, List.setIfInBounds_toArray, List.set_cons_zero, List.set_cons_succ])
        refine wpAnyH_done (by kernel_rfl) ?_ _
        have hBf := Below.on hB9 hBu
        clear HTx HK9 HC hD hB9
        go_wp2
        go_roundw
        case rel => exact ⟨k + 1, (((S1 ++ A) ++ ⟨#[40]⟩) ++ D) ++ ⟨#[41]⟩, by omega, rfl, by go_num, by have := HZ.out; rw [HT.out] at this; omega, hid (by rw [← HT.out]; exact HST.out), hid (fun e => absurd e (by omega)), hBf⟩
        case measure => simp only [intOf]; omega
      · go_simp
        go_wp2_with (first | (go_at_call 30; refine Calls.mono (HC.out _) ?_; rintro e u ⟨rfl, hbu⟩))
        have hBu := Below.on hD hbu
        refine hK.out _ _ (HK9.out _ hBu) (fun hHeld => ?_)
        clear hK K
        (try simp only [Act.put, List.setIfInBounds_toArray, List.set_cons_zero, List.set_cons_succ])
        refine wpAnyH_ready (rs := [1]) (by kernel_rfl) (by simp) ?_
        refine AllReadyH.cons rfl (fun K hK => ?_) AllReadyH.nil
        go_simp
        have hBa : Below W9.heap.size W9 (u.alloc (.cells #[.string ⟨#[115, 117, 109]⟩, .string ⟨#[109, 105, 110]⟩, .string ⟨#[109, 97, 120]⟩] 9 (0, 0))) := bal hBu _
        have htx : Txt (u.alloc (.cells #[.string ⟨#[115, 117, 109]⟩, .string ⟨#[109, 105, 110]⟩, .string ⟨#[109, 97, 120]⟩] 9 (0, 0))) u.heap.size [⟨#[115, 117, 109]⟩, ⟨#[109, 105, 110]⟩, ⟨#[109, 97, 120]⟩] := Txt.new3 u ⟨#[115, 117, 109]⟩ ⟨#[109, 105, 110]⟩ ⟨#[109, 97, 120]⟩
        have HSa : Hid _ := hid (HK9.out _ hBa)
        generalize (u.alloc (.cells #[.string ⟨#[115, 117, 109]⟩, .string ⟨#[109, 105, 110]⟩, .string ⟨#[109, 97, 120]⟩] 9 (0, 0))) = V at *
        generalize hgb : u.heap.size = bS at htx ⊢
        clear hgb
        refine hK.out _ _ (HSa.out) (fun hHeld => ?_)
        clear hK K
        (try simp only [Act.put, List.setIfInBounds_toArray, List.set_cons_zero, List.set_cons_succ])
        have hHeld9 : (fun w' => Txt w' bS [⟨#[115, 117, 109]⟩, ⟨#[109, 105, 110]⟩, ⟨#[109, 97, 120]⟩] ∧ w'.cell? ⟨bx, 0, none⟩ = some (.int .i64 ((ja : Int) + 2)) ∧ w'.cell? ⟨bx, 1, none⟩ = some (.string t) ∧ w'.cell? ⟨bx, 2, none⟩ = some (.string n)) V := ⟨htx, HSa.out⟩
        clear hHeld
        refine wpAnyH_str (S' := fun w' => Txt w' bS [⟨#[115, 117, 109]⟩, ⟨#[109, 105, 110]⟩, ⟨#[109, 97, 120]⟩] ∧ w'.cell? ⟨bx, 0, none⟩ = some (.int .i64 ((ja : Int) + 2)) ∧ w'.cell? ⟨bx, 1, none⟩ = some (.string t) ∧ w'.cell? ⟨bx, 2, none⟩ = some (.string n)) (fun w h => h.2) _ _ _ _ ?_
        have hHeld := hHeld9
        clear hHeld9
        refine wpAnyH_take (i := 5) (v := ?tv16) rfl (by kernel_rfl) (by kernel_rfl) (by kernel_rfl) (fun _ _ _ h => h) (Or.inl ⟨by rfl, ?hy16⟩) (by assumption) ?rs16
        case hy16 => (intro w9 hSw; (try dsimp only at hSw); go_simp; (try with_reducible rfl))
        (try simp only [Act.put, List.setIfInBounds_toArray, List.set_cons_zero, List.set_cons_succ])
        refine wpAnyH_take (i := 6) (v := ?tv17) rfl (by kernel_rfl) (by kernel_rfl) (by kernel_rfl) (fun _ _ _ h => h) (Or.inl ⟨by rfl, ?hy17⟩) (by assumption) ?rs17
        case hy17 => (intro w9 hSw; (try dsimp only at hSw); have bl9 := hSw.1.lt; have c9 := HTx.out _ _ hSw.1; go_simp; (try with_reducible rfl))
        (try simp only [Act.put, List.setIfInBounds_toArray, List.set_cons_zero, List.set_cons_succ])
        refine wpAnyH_take (i := 7) (v := ?tv18) rfl (by kernel_rfl) (by kernel_rfl) (by kernel_rfl) (fun _ _ _ h => h) (Or.inl ⟨by rfl, ?hy18⟩) (by assumption) ?rs18
        case hy18 => (intro w9 hSw; (try dsimp only at hSw); go_simp; (try with_reducible rfl))
        (try simp only [Act.put, List.setIfInBounds_toArray, List.set_cons_zero, List.set_cons_succ])
        refine wpAnyH_take (i := 8) (v := ?tv19) rfl (by kernel_rfl) (by kernel_rfl) (by kernel_rfl) (fun _ _ _ h => h) (Or.inl ⟨by rfl, ?hy19⟩) (by assumption) ?rs19
        case hy19 => (intro w9 hSw; (try dsimp only at hSw); go_simp; (try with_reducible rfl))
        (try simp only [Act.put, List.setIfInBounds_toArray, List.set_cons_zero, List.set_cons_succ])
        refine wpAnyH_take (i := 14) (v := ?tv20) rfl (by kernel_rfl) (by kernel_rfl) (by kernel_rfl) (fun _ _ _ h => h) (Or.inl ⟨by rfl, ?hy20⟩) (by assumption) ?rs20
        case hy20 => (intro w9 hSw; (try dsimp only at hSw); go_simp; (try with_reducible rfl))
        (try simp only [Act.put, List.setIfInBounds_toArray, List.set_cons_zero, List.set_cons_succ])
        refine wpAnyH_take (i := 15) (v := ?tv21) rfl (by kernel_rfl) (by kernel_rfl) (by kernel_rfl) (fun _ _ _ h => h) (Or.inl ⟨by rfl, ?hy21⟩) (by assumption) ?rs21
        case hy21 => (intro w9 hSw; (try dsimp only at hSw); go_simp; (try with_reducible rfl))
        (try simp only [Act.put, List.setIfInBounds_toArray, List.set_cons_zero, List.set_cons_succ])
        refine wpAnyH_take (i := 16) (v := ?tv22) rfl (by kernel_rfl) (by kernel_rfl) (by kernel_rfl) (fun _ _ _ h => h) (Or.inl ⟨by rfl, ?hy22⟩) (by assumption) ?rs22
        case hy22 => (intro w9 hSw; (try dsimp only at hSw); go_simp; (try with_reducible rfl))
        (try simp only [Act.put, List.setIfInBounds_toArray, List.set_cons_zero, List.set_cons_succ])
        refine wpAnyH_done (by kernel_rfl) ?_ _
        have hBf := Below.on hB9 hBa
        clear HTx HK9 HC hD hB9
        go_wp2
        go_roundw
        case rel => exact ⟨k + 1, (((S1 ++ A) ++ ⟨#[40]⟩) ++ D) ++ ⟨#[41]⟩, by omega, rfl, by go_num, by have := HZ.out; rw [HT.out] at this; omega, hid (by rw [← HT.out]; exact HST.out), hid (fun e => absurd e (by omega)), hBf⟩
        case measure => simp only [intOf]; omega
    · obtain rfl : k = itn := by omega
      have gk : decide ((k : Int) < (k : Int)) = false := by simp
      have HF : Hid _ := hid (HRR.out S HS.out)
      have box := bB.later hb
      have y1 : wr.cell? ⟨qa, 1, none⟩ = some (.string tb) := box.cells.2.1
      have y6 : wr.cell? ⟨qa, 6, none⟩ = some (.slice ita k itc) := box.cells.2.2.2.2.2.2.1
      have y7 : wr.cell? ⟨qa, 7, none⟩ = some (.string jn) := box.cells.2.2.2.2.2.2.2.1
      have y8 : wr.cell? ⟨qa, 8, none⟩ = some (.slice ona onn onc) := box.cells.2.2.2.2.2.2.2.2.1
      have hbl := box.lt
      clear HK HS HS1 HRR bB hB2
      have hkk : k * 2010 ≤ 201000 := by omega
      have zf : (⟨#[32, 102, 114, 111, 109, 32]⟩ : ByteArray).size = 6 := rfl
      have z0 : ¬ 9223372036854775807 < S.size + 6 := by omega
      have z1 : ¬ 9223372036854775807 < S.size + 6 + tb.size := by omega
      rcases hjn with ⟨rfl, hone⟩ | ⟨hjne, hjz, ja, jb, hone, hwa, hwb, hza, hzb⟩
      · rw [hone] at HF
        have HF2 : Hid (ordB (((S ++ ⟨#[32, 102, 114, 111, 109, 32]⟩) ++ tb) ++ WB) ds m.order = RR) := HF
        clear HF
        have HF := HF2
        clear HF2
        go_upto_region 19 with fail
        have HWc : Hid _ := hid (HW.out wr (HB2.out _ hb))
        have p9 : wr.cell? ⟨qa, 9, none⟩ = some (.slice wha whn whc) := box.cells.2.2.2.2.2.2.2.2.2.1
        generalize hSJ : (S ++ ⟨#[32, 102, 114, 111, 109, 32]⟩) ++ tb = SJ at *
        have hzJ : SJ.size ≤ 300000 := by rw [← hSJ]; rw [ByteArray.size_append, ByteArray.size_append]; omega
        clear hSJ
        have x9 : ¬ 9223372036854775807 < SJ.size + WB.size := by omega
        clear HW
        go_wp2_with fail
        refine Calls.mono HWc.out ?_
        rintro e u ⟨rfl, hbu⟩
        have hBu := Below.on hb hbu
        have boxu := box.later hbu
        have p10 : u.cell? ⟨qa, 10, none⟩ = some (.slice oda odn odc) := boxu.cells.2.2.2.2.2.2.2.2.2.2.1
        have p11 : u.cell? ⟨qa, 11, none⟩ = some (.bool ds) := boxu.cells.2.2.2.2.2.2.2.2.2.2.2.1
        have hblu := boxu.lt
        clear HWc hbu p9
        have hzU : (SJ ++ WB).size ≤ 500000 := by rw [ByteArray.size_append]; omega
        have hzU2 : SJ.size + WB.size ≤ 500000 := by omega
        rcases hod with ⟨hoe, rfl⟩ | ⟨oa, hoe, howf, hoz⟩
        · have hon : odn = 0 := by have h9 := HNO.out; rw [hoe] at h9; exact h9.1
          subst hon
          rw [hoe] at HF
          clear HO
          (try clear HJ)
          go_wp2
          go_ret
          exact ⟨by rw [← HF.out]; rfl, by rw [hqa]; exact HB2.out _ hBu⟩
        · have hon : odn = 1 := by have h9 := HNO.out; rw [hoe] at h9; exact h9.1
          obtain ⟨hn5, hn6⟩ := HNO.out.2
          subst hon
          obtain ⟨ob, oo, op, opp, oa', on', oc', rfl, hce, hcall⟩ := HO.out oa hoe howf hoz u (HB2.out _ hBu)
          rw [hoe] at HF
          obtain ⟨m0, m1, m2, m3, m4, m5, m6⟩ := hce
          have HCo : Hid _ := hid (hcall u (HB2.out _ hBu))
          have x0 : ¬ 9223372036854775807 < SJ.size + WB.size + 10 := by omega
          have HF2 : Hid ((if ds = true then (((SJ ++ WB) ++ ⟨#[32, 111, 114, 100, 101, 114, 32, 98, 121, 32]⟩) ++ shE oa) ++ ⟨#[32, 100, 101, 115, 99]⟩ else ((SJ ++ WB) ++ ⟨#[32, 111, 114, 100, 101, 114, 32, 98, 121, 32]⟩) ++ shE oa) = RR) := HF
          clear HF
          have HF := HF2
          clear HF2
          generalize shE oa = OA at *
          have x1 : ¬ 9223372036854775807 < SJ.size + WB.size + 10 + OA.size := by omega
          have x2 : ¬ 9223372036854775807 < SJ.size + WB.size + 10 + OA.size + 5 := by omega
          clear HO hcall hoe howf
          (try clear HJ)
          unfold exV at HCo
          go_wp2_with fail
          refine Calls.mono HCo.out ?_
          rintro e u2 ⟨rfl, hb2⟩
          have hBv := Below.on hBu hb2
          have p11' := cell_later hb2 p11
          clear HCo m0 m1 m2 m3 m4 m5 m6
          cases ds with
          | false =>
            go_wp2
            go_ret
            exact ⟨by rw [← HF.out]; rfl, by rw [hqa]; exact HB2.out _ hBv⟩
          | true =>
            go_wp2
            go_ret
            exact ⟨by rw [← HF.out]; rfl, by rw [hqa]; exact HB2.out _ hBv⟩
      · obtain ⟨jbb, jo, jop, jp, jaa, jan, jac, jop2, jp2, jaa2, jan2, jac2, rfl, hcells, hcalls⟩ := HJ.out ja jb hone hwa hwb hza hzb
        have hnn : onn = 2 := by have h9 := HNN.out; rw [hone] at h9; exact h9.1
        obtain ⟨hn7, hn8⟩ := HNN.out.2
        subst hnn
        rw [hone] at HF
        have HF2 : Hid (ordB (((((((((S ++ ⟨#[32, 102, 114, 111, 109, 32]⟩) ++ tb) ++ ⟨#[32, 106, 111, 105, 110, 32]⟩) ++ jn) ++ ⟨#[32, 111, 110, 32]⟩) ++ shE ja) ++ ⟨#[32, 61, 32]⟩) ++ shE jb) ++ WB) ds m.order = RR) := HF
        clear HF
        have HF := HF2
        clear HF2
        have hje := isEmpty_ne hjne
        go_upto_region 18 with fail
        generalize hSF : (S ++ ⟨#[32, 102, 114, 111, 109, 32]⟩) ++ tb = SF at *
        have hzF : SF.size ≤ 210000 := by rw [← hSF, ByteArray.size_append, ByteArray.size_append]; omega
        generalize shE ja = JA at *
        generalize shE jb = JB at *
        have k1 : ¬ 9223372036854775807 < SF.size + 6 := by omega
        have k2 : ¬ 9223372036854775807 < SF.size + 6 + jn.size := by omega
        have k3 : ¬ 9223372036854775807 < SF.size + 6 + jn.size + 4 := by omega
        have k4 : ¬ 9223372036854775807 < SF.size + 6 + jn.size + 4 + JA.size := by omega
        have k5 : ¬ 9223372036854775807 < SF.size + 6 + jn.size + 4 + JA.size + 3 := by omega
        have k6 : ¬ 9223372036854775807 < SF.size + 6 + jn.size + 4 + JA.size + 3 + JB.size := by omega
        have HK8 : Hid (∀ w', Below wr.heap.size wr w' → w'.cell? ⟨qa, 7, none⟩ = some (.string jn) ∧ w'.cell? ⟨qa, 8, none⟩ = some (.slice (some ⟨jbb, jo, none⟩) 2 onc) ∧ Ce w' jbb jo jop jp (.slice jaa jan jac) ∧ Ce w' jbb (jo + 7) jop2 jp2 (.slice jaa2 jan2 jac2)) := hid fun w' hb' => ⟨(box.later hb').cells.2.2.2.2.2.2.2.1, (box.later hb').cells.2.2.2.2.2.2.2.2.1, (hcells w' (HB2.out _ (Below.on hb hb'))).1, (hcells w' (HB2.out _ (Below.on hb hb'))).2⟩
        have HCa : Hid (∀ w2, Below wr.heap.size wr w2 → _) := hid fun w2 hb2 => (hcalls w2 (HB2.out _ (Below.on hb hb2))).1
        have HCb : Hid (∀ w2, Below wr.heap.size wr w2 → _) := hid fun w2 hb2 => (hcalls w2 (HB2.out _ (Below.on hb hb2))).2
        unfold exV at HCa HCb
        unfold Ce at HK8
        clear hcells hcalls HJ hone hwa hwb hjne
        clear hSF
        have hD : Below wr.heap.size wr wr.drew := (Below.refl _ wr).drew
        go_cut [3] (fun v3 w' => v3 = .string ((((((SF ++ ⟨#[32, 106, 111, 105, 110, 32]⟩) ++ jn) ++ ⟨#[32, 111, 110, 32]⟩) ++ JA) ++ ⟨#[32, 61, 32]⟩) ++ JB) ∧ Below wr.heap.size wr w')
        case first =>
          clear HF HW HO hod
          have hC := hD
          go_region_held (fun w' => w'.cell? ⟨qa, 7, none⟩ = some (.string jn) ∧ w'.cell? ⟨qa, 8, none⟩ = some (.slice (some ⟨jbb, jo, none⟩) 2 onc) ∧ (w'.cell? ⟨jbb, jo, none⟩ = some (.int .i64 jop) ∧ w'.cell? ⟨jbb, jo + 1, none⟩ = some (.int .i64 jp.1) ∧ w'.cell? ⟨jbb, jo + 2, none⟩ = some (.int .i64 jp.2.1) ∧ w'.cell? ⟨jbb, jo + 3, none⟩ = some (.string jp.2.2.1) ∧ w'.cell? ⟨jbb, jo + 4, none⟩ = some (.string jp.2.2.2.1) ∧ w'.cell? ⟨jbb, jo + 5, none⟩ = some (.string jp.2.2.2.2) ∧ w'.cell? ⟨jbb, jo + 6, none⟩ = some (.slice jaa jan jac)) ∧ w'.cell? ⟨jbb, jo + 7, none⟩ = some (.int .i64 jop2) ∧ w'.cell? ⟨jbb, jo + 7 + 1, none⟩ = some (.int .i64 jp2.1) ∧ w'.cell? ⟨jbb, jo + 7 + 2, none⟩ = some (.int .i64 jp2.2.1) ∧ w'.cell? ⟨jbb, jo + 7 + 3, none⟩ = some (.string jp2.2.2.1) ∧ w'.cell? ⟨jbb, jo + 7 + 4, none⟩ = some (.string jp2.2.2.2.1) ∧ w'.cell? ⟨jbb, jo + 7 + 5, none⟩ = some (.string jp2.2.2.2.2) ∧ w'.cell? ⟨jbb, jo + 7 + 6, none⟩ = some (.slice jaa2 jan2 jac2))
            (exact HK8.out _ hC)
            (first
            | (go_at_call 13; with_reducible refine Calls.mono (HCa.out _ hC) ?_; rintro e z1 ⟨rfl, hb1⟩; replace hC := Below.on hC hb1)
            | (go_at_call 13; with_reducible refine Calls.mono (HCb.out _ hC) ?_; rintro e z1 ⟨rfl, hb1⟩; replace hC := Below.on hC hb1))
          all_goals
            go_wp2_with fail
            go_meet
            exact ⟨rfl, hC⟩
        case rest =>
        obtain ⟨rfl, hbc⟩ := hcut
        have boxc := box.later hbc
        have hB4 := Below.on hb hbc
        have hblc := boxc.lt
        clear HK8 HCa HCb box hbc y1 y6 y7 y8
        have HWc : Hid _ := hid (HW.out wc (HB2.out _ hB4))
        have p9 : wc.cell? ⟨qa, 9, none⟩ = some (.slice wha whn whc) := boxc.cells.2.2.2.2.2.2.2.2.2.1
        generalize hSJ : (((((SF ++ ⟨#[32, 106, 111, 105, 110, 32]⟩) ++ jn) ++ ⟨#[32, 111, 110, 32]⟩) ++ JA) ++ ⟨#[32, 61, 32]⟩) ++ JB = SJ at *
        have hzJ : SJ.size ≤ 300000 := by rw [← hSJ]; rw [ByteArray.size_append, ByteArray.size_append, ByteArray.size_append, ByteArray.size_append, ByteArray.size_append, ByteArray.size_append]; have e1 : (⟨#[32, 106, 111, 105, 110, 32]⟩ : ByteArray).size = 6 := rfl; have e2 : (⟨#[32, 111, 110, 32]⟩ : ByteArray).size = 4 := rfl; have e3 : (⟨#[32, 61, 32]⟩ : ByteArray).size = 3 := rfl; omega
        clear hSJ
        have x9 : ¬ 9223372036854775807 < SJ.size + WB.size := by omega
        clear HW
        go_wp2_with fail
        refine Calls.mono HWc.out ?_
        rintro e u ⟨rfl, hbu⟩
        have hBu := Below.on hB4 hbu
        have boxu := boxc.later hbu
        have p10 : u.cell? ⟨qa, 10, none⟩ = some (.slice oda odn odc) := boxu.cells.2.2.2.2.2.2.2.2.2.2.1
        have p11 : u.cell? ⟨qa, 11, none⟩ = some (.bool ds) := boxu.cells.2.2.2.2.2.2.2.2.2.2.2.1
        have hblu := boxu.lt
        clear HWc hbu p9
        have hzU : (SJ ++ WB).size ≤ 500000 := by rw [ByteArray.size_append]; omega
        have hzU2 : SJ.size + WB.size ≤ 500000 := by omega
        rcases hod with ⟨hoe, rfl⟩ | ⟨oa, hoe, howf, hoz⟩
        · have hon : odn = 0 := by have h9 := HNO.out; rw [hoe] at h9; exact h9.1
          subst hon
          rw [hoe] at HF
          clear HO
          (try clear HJ)
          go_wp2
          go_ret
          exact ⟨by rw [← HF.out]; rfl, by rw [hqa]; exact HB2.out _ hBu⟩
        · have hon : odn = 1 := by have h9 := HNO.out; rw [hoe] at h9; exact h9.1
          obtain ⟨hn5, hn6⟩ := HNO.out.2
          subst hon
          obtain ⟨ob, oo, op, opp, oa', on', oc', rfl, hce, hcall⟩ := HO.out oa hoe howf hoz u (HB2.out _ hBu)
          rw [hoe] at HF
          obtain ⟨m0, m1, m2, m3, m4, m5, m6⟩ := hce
          have HCo : Hid _ := hid (hcall u (HB2.out _ hBu))
          have x0 : ¬ 9223372036854775807 < SJ.size + WB.size + 10 := by omega
          have HF2 : Hid ((if ds = true then (((SJ ++ WB) ++ ⟨#[32, 111, 114, 100, 101, 114, 32, 98, 121, 32]⟩) ++ shE oa) ++ ⟨#[32, 100, 101, 115, 99]⟩ else ((SJ ++ WB) ++ ⟨#[32, 111, 114, 100, 101, 114, 32, 98, 121, 32]⟩) ++ shE oa) = RR) := HF
          clear HF
          have HF := HF2
          clear HF2
          generalize shE oa = OA at *
          have x1 : ¬ 9223372036854775807 < SJ.size + WB.size + 10 + OA.size := by omega
          have x2 : ¬ 9223372036854775807 < SJ.size + WB.size + 10 + OA.size + 5 := by omega
          clear HO hcall hoe howf
          (try clear HJ)
          unfold exV at HCo
          go_wp2_with fail
          refine Calls.mono HCo.out ?_
          rintro e u2 ⟨rfl, hb2⟩
          have hBv := Below.on hBu hb2
          have p11' := cell_later hb2 p11
          clear HCo m0 m1 m2 m3 m4 m5 m6
          cases ds with
          | false =>
            go_wp2
            go_ret
            exact ⟨by rw [← HF.out]; rfl, by rw [hqa]; exact HB2.out _ hBv⟩
          | true =>
            go_wp2
            go_ret
            exact ⟨by rw [← HF.out]; rfl, by rw [hqa]; exact HB2.out _ hBv⟩

end Go.Proofs.YtnboooaockgoiaaGreatDoor
