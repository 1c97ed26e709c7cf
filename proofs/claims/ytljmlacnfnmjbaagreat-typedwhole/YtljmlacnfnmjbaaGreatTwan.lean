import Derived.Test.YtljmlacnfnmjbaaGreatTwam
import Derived.Test.YtljmlacnfnmjbaaGreatTwac
import Derived.Test.YtljmlacnfnmjbaaGreatTwad
import Derived.Test.YtljmlacnfnmjbaaGreatTwaa
import Derived.ProofKit
import Derived.OpenShut
import Derived.ShutString
import Derived.ChangeOld
import Derived.Below
import Derived.Deep.Strs
import Derived.ChangeMaps5
namespace Go.Proofs.YtljmlacnfnmjbaaGreat
open Go.RowKit
set_option linter.unusedVariables false
set_option linter.unusedSimpArgs false

theorem SlF.nil (Q : Nat → Prop) (w : World) : SlF Q w none 0 0 .nil := ⟨rfl, Nat.le_refl _, by omega, fun h => absurd h (Nat.lt_irrefl _)⟩
/-- Rows of one, of two expressions, as forests. -/
theorem slF1 {w : World} {b : Nat} {p : Pg} {l : Tg} {ea : Option Addr} {en ec : Nat} (h : Ce w b 0 p.1 p.2 (.slice ea en ec)) (hs : SlF (fun _ => True) w ea en ec l) : SlF (fun _ => True) w (some ⟨b, 0, none⟩) 1 1 (.node 0 0 p l .nil) :=
  ⟨rfl, Nat.le_refl _, by omega, fun _ => ⟨b, 0, rfl, trivial, ⟨ea, en, ec, h, hs⟩, trivial⟩⟩
theorem slF2 {w : World} {b : Nat} {p q : Pg} {l r : Tg} {ea : Option Addr} {en ec : Nat} {fa : Option Addr} {fn fc : Nat} (h : Ce w b 0 p.1 p.2 (.slice ea en ec)) (hs : SlF (fun _ => True) w ea en ec l) (h' : Ce w b 7 q.1 q.2 (.slice fa fn fc)) (hs' : SlF (fun _ => True) w fa fn fc r) : SlF (fun _ => True) w (some ⟨b, 0, none⟩) 2 2 (.node 0 0 p l (.node 0 0 q r .nil)) :=
  ⟨rfl, Nat.le_refl _, by omega, fun _ => ⟨b, 0, rfl, trivial, ⟨ea, en, ec, h, hs⟩, ⟨fa, fn, fc, by simpa using h', hs'⟩, trivial⟩⟩
abbrev nP : Pay := (0, 0, ⟨#[]⟩, ⟨#[]⟩, ⟨#[]⟩)
abbrev litP (k i : Int) : Pg := (1, k, i, ⟨#[]⟩, ⟨#[]⟩, ⟨#[]⟩)
abbrev xEq : Pg × Tg := ((8, nP), .node 0 0 (litP 1 1) .nil (.node 0 0 (litP 1 1) .nil .nil))
abbrev xNot : Pg × Tg := ((4, nP), .node 0 0 (litP 1 1) .nil .nil)
theorem kd_eq : kdT (pairP [] []) xEq = (3, 0) := by decide +kernel
theorem kd_not : kdT (pairP [] []) xNot = (0, 11) := by decide +kernel
abbrev qSel : Sq := ⟨6, ⟨#[113]⟩, ⟨#[]⟩, [], [], ⟨#[]⟩, [], [], []⟩
theorem chk_q : (if formP qSel 0 then selP tbs qSel else 1) = 9 := by decide +kernel
abbrev sSel : Sv := ⟨6, ⟨#[113]⟩, ⟨#[]⟩, (none, 0, 0), (none, 0, 0), (none, 0, 0), (none, 0, 0), ⟨#[]⟩, (none, 0, 0), (none, 0, 0), (none, 0, 0), false, (none, 0, 0)⟩
theorem isQ_q (w : World) : IsQ w qSel sSel := ⟨rfl, rfl, rfl, rfl, RowIs.nil _ _ _, RowIs.nil _ _ _, RowIs.nil _ _ _, RowIs.nil _ _ _, RowIs.nil _ _ _⟩
theorem sqB_q : SqB qSel := ⟨by simp, by simp, by simp, by simp, by simp⟩
theorem fromC_tbs (m : Sq) : (fromC tbs m).length ≤ 500 := by
  have h2 : ∀ n t, lookT tbs n = some t → (colsT t).length = 3 := by
    intro n t h
    have := lookT_mem h
    simp only [List.mem_cons, List.not_mem_nil, or_false] at this
    rcases this with rfl | rfl <;> rfl
  have h1 : ∀ l : List ByteArray, (overC tbs l).length ≤ 3 * l.length := by
    intro l
    induction l with
    | nil => simp [overC]
    | cons n l ih =>
      unfold overC at ih ⊢
      cases h : lookT tbs n with
      | none => simp only [List.filterMap_cons, h, List.length_cons]; omega
      | some t => simp only [List.filterMap_cons, h, List.flatMap_cons, List.length_append, List.length_cons, h2 n t h]; omega
  have := h1 (namesP m)
  unfold fromC
  have h3 : (namesP m).length ≤ 2 := by unfold namesP; split <;> simp
  omega

set_option maxRecDepth 100000 in
set_option maxHeartbeats 4000000 in
theorem begun10_any (w : World) : Calls Tryz.prog 9 #[] w fun e w' => e = .returned (.bool true) ∧ Below w.heap.size w w' := by
  have hw := bal (Below.refl w.heap.size w) (.cells #[.int .i64 1, .int .i64 1, .int .i64 1, .string ⟨#[]⟩, .string ⟨#[]⟩, .string ⟨#[]⟩, .slice none 0 0] 28)
  have bx := Bk.new w (.cells #[.int .i64 1, .int .i64 1, .int .i64 1, .string ⟨#[]⟩, .string ⟨#[]⟩, .string ⟨#[]⟩, .slice none 0 0] 28)
  have HK1 : Hid (∀ w1 : World, Calls Tryz.prog 11 #[.slice none 0 0, .slice none 0 0, .agg #[.int .i64 8, .int .i64 0, .int .i64 0, .string ⟨#[]⟩, .string ⟨#[]⟩, .string ⟨#[]⟩, .slice (some ⟨w1.heap.size, 0, none⟩) 2 2]] (w1.alloc (.cells #[.int .i64 1, .int .i64 1, .int .i64 1, .string ⟨#[]⟩, .string ⟨#[]⟩, .string ⟨#[]⟩, .slice none 0 0, .int .i64 1, .int .i64 1, .int .i64 1, .string ⟨#[]⟩, .string ⟨#[]⟩, .string ⟨#[]⟩, .slice none 0 0] 28)) fun en w' => en = .returned (.tuple #[.int .i64 3, .int .i64 0]) ∧ Below (w1.alloc (.cells #[.int .i64 1, .int .i64 1, .int .i64 1, .string ⟨#[]⟩, .string ⟨#[]⟩, .string ⟨#[]⟩, .slice none 0 0, .int .i64 1, .int .i64 1, .int .i64 1, .string ⟨#[]⟩, .string ⟨#[]⟩, .string ⟨#[]⟩, .slice none 0 0] 28)).heap.size (w1.alloc (.cells #[.int .i64 1, .int .i64 1, .int .i64 1, .string ⟨#[]⟩, .string ⟨#[]⟩, .string ⟨#[]⟩, .slice none 0 0, .int .i64 1, .int .i64 1, .int .i64 1, .string ⟨#[]⟩, .string ⟨#[]⟩, .string ⟨#[]⟩, .slice none 0 0] 28)) w') := hid fun w1 => by
    have hc2 := cell_new w1 #[.int .i64 1, .int .i64 1, .int .i64 1, .string ⟨#[]⟩, .string ⟨#[]⟩, .string ⟨#[]⟩, .slice none 0 0, .int .i64 1, .int .i64 1, .int .i64 1, .string ⟨#[]⟩, .string ⟨#[]⟩, .string ⟨#[]⟩, .slice none 0 0] 28 (0, 0)
    have h := Kind_any (C := []) (K := []) (by simp) xEq (Q := fun _ => True) (w := w1.alloc (.cells #[.int .i64 1, .int .i64 1, .int .i64 1, .string ⟨#[]⟩, .string ⟨#[]⟩, .string ⟨#[]⟩, .slice none 0 0, .int .i64 1, .int .i64 1, .int .i64 1, .string ⟨#[]⟩, .string ⟨#[]⟩, .string ⟨#[]⟩, .slice none 0 0] 28)) (RowIs.nil eItem _ _) (RowIs.nil eInt _ _) (cs := exC 8 nP (.slice (some ⟨w1.heap.size, 0, none⟩) 2 2))
      ⟨_, _, _, rfl, slF2 (p := litP 1 1) (q := litP 1 1) (show Ce (w1.alloc (.cells #[.int .i64 1, .int .i64 1, .int .i64 1, .string ⟨#[]⟩, .string ⟨#[]⟩, .string ⟨#[]⟩, .slice none 0 0, .int .i64 1, .int .i64 1, .int .i64 1, .string ⟨#[]⟩, .string ⟨#[]⟩, .string ⟨#[]⟩, .slice none 0 0] 28)) w1.heap.size 0 1 (1, 1, ⟨#[]⟩, ⟨#[]⟩, ⟨#[]⟩) (.slice none 0 0) from ⟨hc2 0, hc2 1, hc2 2, hc2 3, hc2 4, hc2 5, hc2 6⟩) (SlF.nil _ _) (show Ce (w1.alloc (.cells #[.int .i64 1, .int .i64 1, .int .i64 1, .string ⟨#[]⟩, .string ⟨#[]⟩, .string ⟨#[]⟩, .slice none 0 0, .int .i64 1, .int .i64 1, .int .i64 1, .string ⟨#[]⟩, .string ⟨#[]⟩, .string ⟨#[]⟩, .slice none 0 0] 28)) w1.heap.size 7 1 (1, 1, ⟨#[]⟩, ⟨#[]⟩, ⟨#[]⟩) (.slice none 0 0) from ⟨hc2 7, hc2 8, hc2 9, hc2 10, hc2 11, hc2 12, hc2 13⟩) (SlF.nil _ _)⟩
    rw [kd_eq] at h
    exact h
  have HK2 : Hid (∀ w1 : World, Calls Tryz.prog 11 #[.slice none 0 0, .slice none 0 0, .agg #[.int .i64 4, .int .i64 0, .int .i64 0, .string ⟨#[]⟩, .string ⟨#[]⟩, .string ⟨#[]⟩, .slice (some ⟨w1.heap.size, 0, none⟩) 1 1]] (w1.alloc (.cells #[.int .i64 1, .int .i64 1, .int .i64 1, .string ⟨#[]⟩, .string ⟨#[]⟩, .string ⟨#[]⟩, .slice none 0 0] 28)) fun en w' => en = .returned (.tuple #[.int .i64 0, .int .i64 11]) ∧ Below (w1.alloc (.cells #[.int .i64 1, .int .i64 1, .int .i64 1, .string ⟨#[]⟩, .string ⟨#[]⟩, .string ⟨#[]⟩, .slice none 0 0] 28)).heap.size (w1.alloc (.cells #[.int .i64 1, .int .i64 1, .int .i64 1, .string ⟨#[]⟩, .string ⟨#[]⟩, .string ⟨#[]⟩, .slice none 0 0] 28)) w') := hid fun w1 => by
    have hc2 := cell_new w1 #[.int .i64 1, .int .i64 1, .int .i64 1, .string ⟨#[]⟩, .string ⟨#[]⟩, .string ⟨#[]⟩, .slice none 0 0] 28 (0, 0)
    have h := Kind_any (C := []) (K := []) (by simp) xNot (Q := fun _ => True) (w := w1.alloc (.cells #[.int .i64 1, .int .i64 1, .int .i64 1, .string ⟨#[]⟩, .string ⟨#[]⟩, .string ⟨#[]⟩, .slice none 0 0] 28)) (RowIs.nil eItem _ _) (RowIs.nil eInt _ _) (cs := exC 4 nP (.slice (some ⟨w1.heap.size, 0, none⟩) 1 1))
      ⟨_, _, _, rfl, slF1 (p := litP 1 1) (show Ce (w1.alloc (.cells #[.int .i64 1, .int .i64 1, .int .i64 1, .string ⟨#[]⟩, .string ⟨#[]⟩, .string ⟨#[]⟩, .slice none 0 0] 28)) w1.heap.size 0 1 (1, 1, ⟨#[]⟩, ⟨#[]⟩, ⟨#[]⟩) (.slice none 0 0) from ⟨hc2 0, hc2 1, hc2 2, hc2 3, hc2 4, hc2 5, hc2 6⟩) (SlF.nil _ _)⟩
    rw [kd_not] at h
    exact h
  have HS : Hid (∀ w1, _) := hid fun w1 => schemaT_any w1
  have HCk : Hid (∀ (b : Nat) w1, IsT w1 tbs (some ⟨b, 0, none⟩) 2 2 → Calls Tryz.prog 15 #[.agg #[.slice (some ⟨b, 0, none⟩) 2 2, .slice none 0 0], .agg #[.int .i64 6, .string ⟨#[113]⟩, .string ⟨#[]⟩, .slice none 0 0, .slice none 0 0, .slice none 0 0, .slice none 0 0, .string ⟨#[]⟩, .slice none 0 0, .slice none 0 0, .slice none 0 0, .bool false, .slice none 0 0]] w1 fun en w' => en = .returned (.int .i64 9) ∧ Below w1.heap.size w1 w') := hid fun b w1 hT => by
    have h := check_sel (vb := none) (vm := 0) (vd := 0) sqB_q hT (isQ_q w1) rfl (fromC_tbs _)
    rw [chk_q] at h
    exact h
  go_enter Tryz.func9, Tryz.ntmps9
  go_upto_region 2 with fail
  generalize w.alloc (.cells #[.int .i64 1, .int .i64 1, .int .i64 1, .string ⟨#[]⟩, .string ⟨#[]⟩, .string ⟨#[]⟩, .slice none 0 0] 28) = W at *
  have d0 := bx.cell 0
  have d1 := bx.cell 1
  have d2 := bx.cell 2
  have d3 := bx.cell 3
  have d4 := bx.cell 4
  have d5 := bx.cell 5
  have d6 := bx.cell 6
  simp only [List.getElem?_toArray, List.getElem?_cons_zero, List.getElem?_cons_succ] at d0 d1 d2 d3 d4 d5 d6
  clear bx
  go_wp2_with fail
  refine Calls.mono (HK1.out _) ?_
  rintro e w2 ⟨rfl, hb2⟩
  have hB2 := Below.on (bal (Below.refl _ W) _) hb2
  replace d0 := cell_later hB2 d0
  replace d1 := cell_later hB2 d1
  replace d2 := cell_later hB2 d2
  replace d3 := cell_later hB2 d3
  replace d4 := cell_later hB2 d4
  replace d5 := cell_later hB2 d5
  replace d6 := cell_later hB2 d6
  replace hB2 := Below.on hw hB2
  clear hb2 HK1
  go_wp2_with fail
  refine Calls.mono (HK2.out _) ?_
  rintro e w3 ⟨rfl, hb3⟩
  have hB3 := Below.on hB2 (Below.on (bal (Below.refl _ w2) _) hb3)
  clear hb3 HK2 d0 d1 d2 d3 d4 d5 d6
  go_wp2_with fail
  refine Calls.mono (HS.out _) ?_
  rintro e w4 ⟨b, rfl, hT, -, hb4⟩
  have hB4 := Below.on hB3 hb4
  have HC2 : Hid _ := hid (HCk.out b w4 hT)
  clear hb4 HS HCk hT
  go_wp2_with fail
  refine Calls.mono HC2.out ?_
  rintro e w5 ⟨rfl, hb5⟩
  clear HC2
  go_wp2
  go_ret
  exact ⟨rfl, Below.on hB4 hb5⟩

end Go.Proofs.YtljmlacnfnmjbaaGreat
namespace Go.Proofs.YtljmlacnfnmjbaaGreat
open Go.RowKit
set_option linter.unusedVariables false
set_option linter.unusedSimpArgs false

abbrev C0 : Cl2 := [((0, ⟨#[116]⟩, ⟨#[107]⟩), 1), ((0, ⟨#[116]⟩, ⟨#[118]⟩), 2), ((0, ⟨#[116]⟩, ⟨#[110]⟩), 1)]
abbrev S0 : List Cl3 := pairP (C0.map Prod.fst) (C0.map Prod.snd)
theorem leaf_kd {k : Int} {t : Tr} (h : LeafOK C0 k t) : kdT S0 (gP t) = (k, 0) ∧ noT t = false := by
  rcases h with ⟨tb, nm, rfl, x, hx, hk, rfl, hx2⟩ | ⟨i, s, rfl, -⟩
  · refine ⟨?_, rfl⟩
    subst hk
    simp only [List.mem_cons, List.not_mem_nil, or_false] at hx
    rcases hx with rfl | rfl | rfl <;> rcases hx2 with rfl | ⟨rfl, -⟩ <;> decide +kernel
  · exact ⟨rfl, rfl⟩
theorem kd_one {S : List Cl3} {op : Nat} {l : Tr} (hl : noT l = false) : kdT S (gP (tOne op l)) = kd1 S ((op : Int), nilP) [kdT S (gP l)] := by
  show kd1 S ((op : Int), nilP) (kds S (gT l (gT .nil .nil))) = _
  rw [kds_map, gT_cons hl]; rfl
theorem kd_two {S : List Cl3} {op : Nat} {l r : Tr} (hl : noT l = false) (hr : noT r = false) : kdT S (gP (tTwo op l r)) = kd1 S ((op : Int), nilP) [kdT S (gP l), kdT S (gP r)] := by
  show kd1 S ((op : Int), nilP) (kds S (gT l (gT r .nil))) = _
  rw [kds_map, gT_cons hl, gT_cons hr]; rfl
theorem pl_kd : ∀ (n : Nat) {k : Int} {t : Tr}, Pl C0 n k t → kdT S0 (gP t) = (k, 0) ∧ noT t = false
  | 0, k, t, h => leaf_kd h.2
  | n + 1, k, t, h => by
    rcases h with ⟨_, h⟩ | ⟨rfl, ⟨l, rfl, h⟩ | ⟨a, l, r, ha, rfl, hl, hr⟩⟩ | ⟨rfl, ⟨l, rfl, h⟩ | ⟨a, l, r, ha, rfl, hl, hr⟩ | ⟨a, k, l, r, ha, hk, rfl, hl, hr⟩⟩
    · exact leaf_kd h
    · obtain ⟨e, hn⟩ := pl_kd n h
      refine ⟨?_, rfl⟩
      rw [kd_one hn, e]; decide +kernel
    · obtain ⟨e, hn⟩ := pl_kd n hl
      obtain ⟨e2, hn2⟩ := pl_kd n hr
      refine ⟨?_, rfl⟩
      rw [kd_two hn hn2, e, e2]
      match a, ha with
      | 0, _ => decide +kernel
      | 1, _ => decide +kernel
      | 2, _ => decide +kernel
    · obtain ⟨e, hn⟩ := pl_kd n h
      refine ⟨?_, rfl⟩
      rw [kd_one hn, e]; decide +kernel
    · obtain ⟨e, hn⟩ := pl_kd n hl
      obtain ⟨e2, hn2⟩ := pl_kd n hr
      refine ⟨?_, rfl⟩
      rw [kd_two hn hn2, e, e2]
      match a, ha with
      | 0, _ => decide +kernel
      | 1, _ => decide +kernel
    · obtain ⟨e, hn⟩ := pl_kd n hl
      obtain ⟨e2, hn2⟩ := pl_kd n hr
      refine ⟨?_, rfl⟩
      rw [kd_two hn hn2, e, e2]
      rcases hk with rfl | rfl
      · match a, ha with
        | 0, _ => decide +kernel
        | 1, _ => decide +kernel
        | 2, _ => decide +kernel
        | 3, _ => decide +kernel
        | 4, _ => decide +kernel
        | 5, _ => decide +kernel
      · match a, ha with
        | 0, _ => decide +kernel
        | 1, _ => decide +kernel
        | 2, _ => decide +kernel
        | 3, _ => decide +kernel
        | 4, _ => decide +kernel
        | 5, _ => decide +kernel
/-- An expression alone in another, twice in another. -/
abbrev inOne (op : Int) (x : Pg × Tg) : Pg × Tg := ((op, nP), .node 0 0 x.1 x.2 .nil)
abbrev inTwo (op : Int) (x : Pg × Tg) : Pg × Tg := ((op, nP), .node 0 0 x.1 x.2 (.node 0 0 x.1 x.2 .nil))
theorem kd_inOne {S : List Cl3} {op k : Int} {x : Pg × Tg} (h : kdT S x = (k, 0)) : kdT S (inOne op x) = kd1 S (op, nP) [(k, 0)] := by
  show kd1 S (op, nP) [kd1 S x.1 (kds S x.2)] = _
  rw [show kd1 S x.1 (kds S x.2) = (k, 0) from h]
theorem kd_inTwo {S : List Cl3} {op k : Int} {x : Pg × Tg} (h : kdT S x = (k, 0)) : kdT S (inTwo op x) = kd1 S (op, nP) [(k, 0), (k, 0)] := by
  show kd1 S (op, nP) [kd1 S x.1 (kds S x.2), kd1 S x.1 (kds S x.2)] = _
  rw [show kd1 S x.1 (kds S x.2) = (k, 0) from h]
theorem whole_plain : ∀ K < 3, kd1 S0 (3, nP) [((1 + (K : Nat) : Int), 0)] = (if K = 0 then (1, 0) else (0, 11)) ∧ kd1 S0 (4, nP) [((1 + (K : Nat) : Int), 0)] = (if K = 2 then (3, 0) else (0, 11)) ∧ kd1 S0 (10, nP) [((1 + (K : Nat) : Int), 0), ((1 + (K : Nat) : Int), 0)] = (if K = 2 then (0, 11) else (3, 0)) := by decide +kernel
theorem Ex.parts {Q : Nat → Prop} {w : World} {t : Tr} {o : Int} {p : Pay} {a : Option Addr} {n c : Nat} (h : Ex Q w t (exV o p (.slice a n c))) : (gP t).1 = (o, p) ∧ SlF Q w a n c (gP t).2 := by
  obtain ⟨a', n', c', e, hs⟩ := Ex.g h
  simp only [exC, List.cons.injEq, Value.int.injEq, Value.string.injEq, Value.slice.injEq, true_and, and_true] at e
  obtain ⟨e0, e1, e2, e3, e4, e5, rfl, rfl, rfl⟩ := e
  refine ⟨?_, hs⟩
  obtain ⟨k1, k2, k3, k4, k5⟩ := p
  rcases hg : gP t with ⟨⟨g0, g1, g2, g3, g4, g5⟩, gf⟩
  rw [hg] at e0 e1 e2 e3 e4 e5
  dsimp only at e0 e1 e2 e3 e4 e5
  rw [e0, e1, e2, e3, e4, e5]
set_option maxRecDepth 100000 in
set_option maxHeartbeats 1000000 in
theorem made10_any {w : World} {a : Option Addr} {len cap : Nat} (h1 : len ≤ cap) (h2 : cap ≤ 9223372036854775807) (h3 : Nums w w.heap.size a len) :
    Calls Tryz.prog 18 #[.slice a len cap] w fun e w' => e = .returned (.pointer (some ⟨w.heap.size, 0, none⟩)) ∧ Pk w' w.heap.size len ∧ Below w.heap.size w w' := by
  have hb := bal (Below.refl _ w) (.cells #[.slice a len cap, .int .i64 ((0 : Nat) : Int)] 86)
  have hp : Pk (w.alloc (.cells #[.slice a len cap, .int .i64 ((0 : Nat) : Int)] 86)) w.heap.size len := ⟨a, len, cap, 0, ⟨heap_alloc_new w _⟩, by omega, h1, h2, h3.keep (by have := hb.size; omega) fun k hk => hb.block k hk⟩
  have T : Hid _ := hid (And.intro hp hb)
  clear hp hb h3
  go_enter Tryz.func18, Tryz.ntmps18
  go_wp2
  go_ret
  exact ⟨rfl, T.out.1, T.out.2⟩
theorem nums10_of {w : World} {a : Option Addr} {len cap : Nat} {xs : List Int} (h : Rd .u8 w a len cap xs) (hx : ∀ x ∈ xs, 0 ≤ x ∧ x ≤ 255) : Nums w w.heap.size a len := fun hp => by
  obtain ⟨b, o, ha, hc⟩ := h.cells hp
  have hb : b < w.heap.size := World.block_lt_of_cell? _ _ (hc 0 hp)
  refine ⟨b, o, ha, hb, hb, fun k hk => ?_⟩
  have hk' : k < xs.length := by rw [h.len]; exact hk
  have hm : nth xs k ∈ xs := by rw [nth, List.getElem?_eq_getElem hk']; exact List.getElem_mem _
  exact ⟨nth xs k, (hx _ hm).1, (hx _ hm).2, hc k hk⟩
theorem fldT (a b : Value) (w : World) : (Instr.field 38 (.agg #[a, b]) 0).run Tryz.prog w = .ok a w := by kernel_rfl
set_option maxRecDepth 100000 in
theorem three_any (a b c : Bool) (w : World) : Calls Tryz.prog 22 #[.bool a, .bool b, .bool c] w fun en w' => en = .returned (.agg #[.bool a, .bool b, .bool c]) ∧ Below w.heap.size w w' := by
  go_enter Tryz.func22, Tryz.ntmps22
  go_wp2
  refine bodyPost_ret (v := .agg #[.bool a, .bool b, .bool c]) (by simp [results, Tryz.results22, go_sem]) rfl ⟨rfl, ?_⟩
  exact bal (Below.refl _ _) _

set_option maxRecDepth 100000 in
set_option maxHeartbeats 4000000 in
theorem typedWhole_any {a : Option Addr} {len cap : Nat} (n : Nat) (hn : n ≤ 255) (w : World) (hlc : len ≤ cap) (hcm : cap ≤ 9223372036854775807) (hnums : Nums w w.heap.size a len) : Calls Tryz.prog 6 #[.slice a len cap, .int .u8 (n : Int)] w fun e w' => e = .returned (.bool true) ∧ Below w.heap.size w w' := by
  have H0 : Hid _ := hid (begun10_any w)
  have HS : Hid (∀ w1, _) := hid fun w1 => schemaT_any w1
  have HT3 : Hid (∀ a b c w1, _) := hid fun a b c w1 => three_any a b c w1
  have HNu : Hid (∀ w1 : World, Below w.heap.size w w1 → Nums w1 w1.heap.size a len) := hid fun w1 hb hp => by
    obtain ⟨b, o, ha, hb1, hb2, hz⟩ := hnums hp
    refine ⟨b, o, ha, by have := hb.size; omega, by have := hb.size; omega, fun k hk => ?_⟩
    obtain ⟨z, z1, z2, z3⟩ := hz k hk
    exact ⟨z, z1, z2, cell_later hb z3⟩
  obtain ⟨K, hK⟩ : ∃ R, n % 3 = R := ⟨_, rfl⟩
  have hK3 : K < 3 := by omega
  have nt : (n : Int).tmod 3 = (K : Int) := by rw [Int.tmod_eq_emod_of_nonneg (by omega)]; omega
  have hwK : IntKind.i64.wrap (K : Int) = (K : Int) := by
    show (if (true && decide ((K : Int) % (2 ^ 64 : Int) ≥ (2 ^ (64 - 1) : Int))) = true then (K : Int) % (2 ^ 64 : Int) - (2 ^ 64 : Int) else (K : Int) % (2 ^ 64 : Int)) = _
    rw [if_neg (by simp; omega)]
    omega
  have hwK1 : IntKind.i64.wrap (1 + (K : Int)) = 1 + (K : Int) := by
    show (if (true && decide ((1 + (K : Int)) % (2 ^ 64 : Int) ≥ (2 ^ (64 - 1) : Int))) = true then (1 + (K : Int)) % (2 ^ 64 : Int) - (2 ^ 64 : Int) else (1 + (K : Int)) % (2 ^ 64 : Int)) = _
    rw [if_neg (by simp; omega)]
    omega
  have hP := whole_plain K hK3
  clear hnums
  go_enter Tryz.func6, Tryz.ntmps6
  go_wp2_with fail
  refine Calls.mono H0.out ?_
  rintro e U ⟨rfl, hw⟩
  clear H0
  by_cases hl : len ≤ 60
  · have hl1 : ¬ (60 : Int) < (len : Int) := by omega
    have hl2 : decide ((60 : Int) < (len : Int)) = false := by simpa using hl1
    go_wp2_with fail
    refine Calls.mono (HS.out _) ?_
    rintro e U1 ⟨tbk, rfl, hT, hbk, hb1⟩
    replace hw := Below.on hw hb1
    have hrow := hT.row
    obtain ⟨_, _, _, e', -, -, -, hx⟩ := hrow
    cases e'
    obtain ⟨_, _, e', -, hi⟩ := hx (by decide)
    cases e'
    obtain ⟨cs, hE, -, hcc⟩ := hi 0 (by simp)
    obtain ⟨ca, cn, cc, xa, xn, xc, rfl, hcol, -⟩ := hE
    have c0 : U1.cell? ⟨tbk, 0, none⟩ = some (.string ⟨#[116]⟩) := by have := hcc 0 (show 0 < 3 by decide); simpa [eTbl] using this
    have c1 : U1.cell? ⟨tbk, 1, none⟩ = some (.slice ca cn cc) := by have := hcc 1 (show 1 < 3 by decide); simpa [eTbl] using this
    have c2 : U1.cell? ⟨tbk, 2, none⟩ = some (.slice xa xn xc) := by have := hcc 2 (show 2 < 3 by decide); simpa [eTbl] using this
    have HCo : Hid _ := hid (playCols_any (nm := ⟨#[116]⟩) (a' := xa) (n' := xn) (c' := xc) hcol (by simp))
    have hft := fldT
    clear hT hx hi hcc hcol hb1 HS
    go_wp2_with fail
    refine Calls.mono HCo.out ?_
    rintro e U2 ⟨v1, v2, rfl, ho1, ho2, -, hb2⟩
    obtain ⟨ia, im, ic, rfl⟩ := ho1.sl
    obtain ⟨ka, km, kc, rfl⟩ := ho2.sl
    replace hw := Below.on hw hb2
    have r1 : RowIs eItem (fun b => b < U2.heap.size) U2 (.slice ia im ic) (C0.map Prod.fst) := OwnR.rowE (e := eItem) ho1 rfl (fun b _ h => h) fun i h1 h2 => by
      have hi : i < 3 := h1
      match i, hi with
      | 0, _ => rfl
      | 1, _ => rfl
      | 2, _ => rfl
    have r2 : RowIs eInt (fun b => b < U2.heap.size) U2 (.slice ka km kc) (C0.map Prod.snd) := OwnR.rowE (e := eInt) ho2 rfl (fun b _ h => h) fun i h1 h2 => by
      have hi : i < 3 := h1
      match i, hi with
      | 0, _ => rfl
      | 1, _ => rfl
      | 2, _ => rfl
    have hm1 : im = 3 := r1.lens.1.symm
    have hm2 : km = 3 := r2.lens.1.symm
    subst hm1
    subst hm2
    have HMa : Hid _ := hid (made10_any hlc hcm (HNu.out U2 hw))
    clear HCo ho1 ho2 hb2 c0 c1 c2 hft
    go_wp2_with fail
    refine Calls.mono HMa.out ?_
    rintro e U3 ⟨rfl, hp, hb3⟩
    have hcs : Cols U3 U2.heap.size C0 ia ic ka kc := ⟨(r1.keep (by decide) fun b _ hl => hb3.block b hl).mono (by decide) fun b hb _ => by have : b < U2.heap.size := hb; omega, (r2.keep (by decide) fun b _ hl => hb3.block b hl).mono (by decide) fun b hb _ => by have : b < U2.heap.size := hb; omega, by simp, ⟨((0, ⟨#[116]⟩, ⟨#[107]⟩), 1), by simp, rfl⟩, ⟨((0, ⟨#[116]⟩, ⟨#[118]⟩), 2), by simp, rfl⟩⟩
    have HPl : Hid _ := hid (play_any 5 (1 + (K : Int)) 0 hp hcs (by omega) rfl)
    have R1 : Hid (∀ w1, (∀ b, b < U2.heap.size → w1.heap[b]? = U3.heap[b]?) → RowIs eItem (fun _ => True) w1 (.slice ia 3 ic) (C0.map Prod.fst)) := hid fun w1 h => ((r1.keep (by decide) fun b _ hl => hb3.block b hl).keep (w' := w1) (by decide) fun b hb _ => h b hb).mono (by decide) fun _ _ _ => trivial
    have R2 : Hid (∀ w1, (∀ b, b < U2.heap.size → w1.heap[b]? = U3.heap[b]?) → RowIs eInt (fun _ => True) w1 (.slice ka 3 kc) (C0.map Prod.snd)) := hid fun w1 h => ((r2.keep (by decide) fun b _ hl => hb3.block b hl).keep (w' := w1) (by decide) fun b hb _ => h b hb).mono (by decide) fun _ _ _ => trivial
    have hw3 := Below.on hw hb3
    have hs3 := hb3.size
    have hgl := hp.lt
    clear HMa hp hcs r1 r2 hb3 HNu
    go_wp2_with fail
    refine Calls.mono HPl.out ?_
    rintro e U4 ⟨o, p, ea, en, ec, t, r', rfl, hpl, -, -, hbut, hex⟩
    obtain ⟨hkd, hnt⟩ := pl_kd 5 hpl
    obtain ⟨hpt, hsl⟩ := hex.parts
    have hw4 := hbut.below hw3 (show w.heap.size ≤ U2.heap.size from hw.size) hw3.size
    have hb5 := bal (Below.refl U4.heap.size U4) (.cells #[.int .i64 o, .int .i64 p.1, .int .i64 p.2.1, .string p.2.2.1, .string p.2.2.2.1, .string p.2.2.2.2, .slice ea en ec] 28)
    have bq := Bk.new U4 (.cells #[.int .i64 o, .int .i64 p.1, .int .i64 p.2.1, .string p.2.2.1, .string p.2.2.2.1, .string p.2.2.2.2, .slice ea en ec] 28)
    have R1' : Hid (∀ w1, Below U4.heap.size U4 w1 → RowIs eItem (fun _ => True) w1 (.slice ia 3 ic) (C0.map Prod.fst)) := hid fun w1 hb => R1.out w1 fun b hb' => (hb.block b (by have := hbut.size; omega)).trans (hbut.block b (by omega) (by omega))
    have R2' : Hid (∀ w1, Below U4.heap.size U4 w1 → RowIs eInt (fun _ => True) w1 (.slice ka 3 kc) (C0.map Prod.snd)) := hid fun w1 hb => R2.out w1 fun b hb' => (hb.block b (by have := hbut.size; omega)).trans (hbut.block b (by omega) (by omega))
    have HSl : Hid (∀ w1, Below U4.heap.size U4 w1 → SlF (fun _ => True) w1 ea en ec (gP t).2) := hid fun w1 hb => by
      obtain ⟨s1, s2, s3, s4⟩ := hsl
      refine ⟨s1, s2, s3, fun hp => ?_⟩
      obtain ⟨b, o', ha, hq, hf⟩ := s4 hp
      exact ⟨b, o', ha, trivial, FoG.mono (fun _ _ _ => trivial) (FoG.keep (fun k _ hk => hb.block k hk) hq hf)⟩
    have HK0 : Hid (∀ w1, Below U4.heap.size U4 w1 → Calls Tryz.prog 11 #[.slice ia 3 ic, .slice ka 3 kc, .agg #[.int .i64 o, .int .i64 p.1, .int .i64 p.2.1, .string p.2.2.1, .string p.2.2.2.1, .string p.2.2.2.2, .slice ea en ec]] w1 fun x9 w' => x9 = .returned (.tuple #[.int .i64 (1 + (K : Int)), .int .i64 0]) ∧ Below w1.heap.size w1 w') := hid fun w1 hb => by
      have h := Kind_any (C := C0.map Prod.fst) (K := C0.map Prod.snd) (by simp) (gP t) (R1'.out w1 hb) (R2'.out w1 hb) (cs := exC o p (.slice ea en ec)) ⟨ea, en, ec, by rw [hpt], HSl.out w1 hb⟩
      rw [hkd] at h
      exact h
    have HK1 : Hid (∀ (op : Int) (z : Int × Int) w1, kd1 S0 (op, nP) [(1 + (K : Int), 0)] = z → Below U4.heap.size U4 w1 → Calls Tryz.prog 11 #[.slice ia 3 ic, .slice ka 3 kc, .agg #[.int .i64 op, .int .i64 0, .int .i64 0, .string ⟨#[]⟩, .string ⟨#[]⟩, .string ⟨#[]⟩, .slice (some ⟨w1.heap.size, 0, none⟩) 1 1]] (w1.alloc (.cells #[.int .i64 o, .int .i64 p.1, .int .i64 p.2.1, .string p.2.2.1, .string p.2.2.2.1, .string p.2.2.2.2, .slice ea en ec] 28)) fun x9 w' => x9 = .returned (.tuple #[.int .i64 z.1, .int .i64 z.2]) ∧ Below (w1.alloc (.cells #[.int .i64 o, .int .i64 p.1, .int .i64 p.2.1, .string p.2.2.1, .string p.2.2.2.1, .string p.2.2.2.2, .slice ea en ec] 28)).heap.size (w1.alloc (.cells #[.int .i64 o, .int .i64 p.1, .int .i64 p.2.1, .string p.2.2.1, .string p.2.2.2.1, .string p.2.2.2.2, .slice ea en ec] 28)) w') := hid fun op z w1 hz hb => by
      have hb' := bal hb (.cells #[.int .i64 o, .int .i64 p.1, .int .i64 p.2.1, .string p.2.2.1, .string p.2.2.2.1, .string p.2.2.2.2, .slice ea en ec] 28)
      have hc2 := cell_new w1 #[.int .i64 o, .int .i64 p.1, .int .i64 p.2.1, .string p.2.2.1, .string p.2.2.2.1, .string p.2.2.2.2, .slice ea en ec] 28 (0, 0)
      have h := Kind_any (C := C0.map Prod.fst) (K := C0.map Prod.snd) (by simp) (inOne op (gP t)) (R1'.out _ hb') (R2'.out _ hb') (cs := exC op nP (.slice (some ⟨w1.heap.size, 0, none⟩) 1 1)) ⟨_, _, _, rfl, slF1 (p := (gP t).1) (show Ce _ w1.heap.size 0 (gP t).1.1 (gP t).1.2 (.slice ea en ec) from by rw [hpt]; exact ⟨hc2 0, hc2 1, hc2 2, hc2 3, hc2 4, hc2 5, hc2 6⟩) (HSl.out _ hb')⟩
      rw [kd_inOne hkd, hz] at h
      exact h
    have HK2 : Hid (∀ (z : Int × Int) w1, kd1 S0 (10, nP) [(1 + (K : Int), 0), (1 + (K : Int), 0)] = z → Below U4.heap.size U4 w1 → Calls Tryz.prog 11 #[.slice ia 3 ic, .slice ka 3 kc, .agg #[.int .i64 10, .int .i64 0, .int .i64 0, .string ⟨#[]⟩, .string ⟨#[]⟩, .string ⟨#[]⟩, .slice (some ⟨w1.heap.size, 0, none⟩) 2 2]] (w1.alloc (.cells #[.int .i64 o, .int .i64 p.1, .int .i64 p.2.1, .string p.2.2.1, .string p.2.2.2.1, .string p.2.2.2.2, .slice ea en ec, .int .i64 o, .int .i64 p.1, .int .i64 p.2.1, .string p.2.2.1, .string p.2.2.2.1, .string p.2.2.2.2, .slice ea en ec] 28)) fun x9 w' => x9 = .returned (.tuple #[.int .i64 z.1, .int .i64 z.2]) ∧ Below (w1.alloc (.cells #[.int .i64 o, .int .i64 p.1, .int .i64 p.2.1, .string p.2.2.1, .string p.2.2.2.1, .string p.2.2.2.2, .slice ea en ec, .int .i64 o, .int .i64 p.1, .int .i64 p.2.1, .string p.2.2.1, .string p.2.2.2.1, .string p.2.2.2.2, .slice ea en ec] 28)).heap.size (w1.alloc (.cells #[.int .i64 o, .int .i64 p.1, .int .i64 p.2.1, .string p.2.2.1, .string p.2.2.2.1, .string p.2.2.2.2, .slice ea en ec, .int .i64 o, .int .i64 p.1, .int .i64 p.2.1, .string p.2.2.1, .string p.2.2.2.1, .string p.2.2.2.2, .slice ea en ec] 28)) w') := hid fun z w1 hz hb => by
      have hb' := bal hb (.cells #[.int .i64 o, .int .i64 p.1, .int .i64 p.2.1, .string p.2.2.1, .string p.2.2.2.1, .string p.2.2.2.2, .slice ea en ec, .int .i64 o, .int .i64 p.1, .int .i64 p.2.1, .string p.2.2.1, .string p.2.2.2.1, .string p.2.2.2.2, .slice ea en ec] 28)
      have hc2 := cell_new w1 #[.int .i64 o, .int .i64 p.1, .int .i64 p.2.1, .string p.2.2.1, .string p.2.2.2.1, .string p.2.2.2.2, .slice ea en ec, .int .i64 o, .int .i64 p.1, .int .i64 p.2.1, .string p.2.2.1, .string p.2.2.2.1, .string p.2.2.2.2, .slice ea en ec] 28 (0, 0)
      have h := Kind_any (C := C0.map Prod.fst) (K := C0.map Prod.snd) (by simp) (inTwo 10 (gP t)) (R1'.out _ hb') (R2'.out _ hb') (cs := exC 10 nP (.slice (some ⟨w1.heap.size, 0, none⟩) 2 2)) ⟨_, _, _, rfl, slF2 (p := (gP t).1) (q := (gP t).1) (show Ce _ w1.heap.size 0 (gP t).1.1 (gP t).1.2 (.slice ea en ec) from by rw [hpt]; exact ⟨hc2 0, hc2 1, hc2 2, hc2 3, hc2 4, hc2 5, hc2 6⟩) (HSl.out _ hb') (show Ce _ w1.heap.size 7 (gP t).1.1 (gP t).1.2 (.slice ea en ec) from by rw [hpt]; exact ⟨hc2 7, hc2 8, hc2 9, hc2 10, hc2 11, hc2 12, hc2 13⟩) (HSl.out _ hb')⟩
      rw [kd_inTwo hkd, hz] at h
      exact h
    obtain ⟨z3, hz3⟩ : ∃ z, kd1 S0 (3, nP) [(1 + (K : Int), 0)] = z := ⟨_, rfl⟩
    obtain ⟨z4, hz4⟩ : ∃ z, kd1 S0 (4, nP) [(1 + (K : Int), 0)] = z := ⟨_, rfl⟩
    obtain ⟨z5, hz5⟩ : ∃ z, kd1 S0 (10, nP) [(1 + (K : Int), 0), (1 + (K : Int), 0)] = z := ⟨_, rfl⟩
    have HP : Hid _ := hid hP
    rw [hz3, hz4, hz5] at HP
    have G1 : Hid (∀ w1, Below U4.heap.size U4 w1 → _) := hid fun w1 hb => HK1.out 3 z3 w1 hz3 hb
    have G2 : Hid (∀ w1, Below U4.heap.size U4 w1 → _) := hid fun w1 hb => HK1.out 4 z4 w1 hz4 hb
    have G3 : Hid (∀ w1, Below U4.heap.size U4 w1 → _) := hid fun w1 hb => HK2.out z5 w1 hz5 hb
    obtain ⟨z31, z32⟩ := z3
    obtain ⟨z41, z42⟩ := z4
    obtain ⟨z51, z52⟩ := z5
    dsimp only at G1 G2 G3
    clear hP HPl HK1 HK2 hz3 hz4 hz5 R1 R2 R1' R2' HSl hbut hex hsl hpt hkd hnt hpl hw3
    simp only [exV]
    go_upto_region 8 with fail
    generalize U4.alloc (.cells #[.int .i64 o, .int .i64 p.1, .int .i64 p.2.1, .string p.2.2.1, .string p.2.2.2.1, .string p.2.2.2.2, .slice ea en ec] 28) = W at *
    have d0 := bq.cell 0
    have d1 := bq.cell 1
    have d2 := bq.cell 2
    have d3 := bq.cell 3
    have d4 := bq.cell 4
    have d5 := bq.cell 5
    have d6 := bq.cell 6
    simp only [List.getElem?_toArray, List.getElem?_cons_zero, List.getElem?_cons_succ] at d0 d1 d2 d3 d4 d5 d6
    generalize U4.heap.size = qe at d0 d1 d2 d3 d4 d5 d6 ⊢
    clear bq
    have hC := hb5
    go_wp2_with fail
    refine Calls.mono (HK0.out _ hC) ?_
    rintro e y1 ⟨rfl, hv⟩
    replace hC := Below.on hC hv
    replace d0 := cell_later hv d0
    replace d1 := cell_later hv d1
    replace d2 := cell_later hv d2
    replace d3 := cell_later hv d3
    replace d4 := cell_later hv d4
    replace d5 := cell_later hv d5
    replace d6 := cell_later hv d6
    clear hv
    go_wp2_with fail
    refine Calls.mono (G1.out _ hC) ?_
    rintro e y2 ⟨rfl, hv⟩
    replace hv := Below.on (bal (Below.refl _ y1) _) hv
    replace hC := Below.on hC hv
    replace d0 := cell_later hv d0
    replace d1 := cell_later hv d1
    replace d2 := cell_later hv d2
    replace d3 := cell_later hv d3
    replace d4 := cell_later hv d4
    replace d5 := cell_later hv d5
    replace d6 := cell_later hv d6
    clear hv
    go_wp2_with fail
    refine Calls.mono (G2.out _ hC) ?_
    rintro e y3 ⟨rfl, hv⟩
    replace hv := Below.on (bal (Below.refl _ y2) _) hv
    replace hC := Below.on hC hv
    replace d0 := cell_later hv d0
    replace d1 := cell_later hv d1
    replace d2 := cell_later hv d2
    replace d3 := cell_later hv d3
    replace d4 := cell_later hv d4
    replace d5 := cell_later hv d5
    replace d6 := cell_later hv d6
    clear hv
    go_wp2_with fail
    refine Calls.mono (G3.out _ hC) ?_
    rintro e y4 ⟨rfl, hv⟩
    replace hv := Below.on (bal (Below.refl _ y3) _) hv
    replace hC := Below.on hC hv
    replace d0 := cell_later hv d0
    replace d1 := cell_later hv d1
    replace d2 := cell_later hv d2
    replace d3 := cell_later hv d3
    replace d4 := cell_later hv d4
    replace d5 := cell_later hv d5
    replace d6 := cell_later hv d6
    clear hv
    clear HK0 G1 G2 G3 d0 d1 d2 d3 d4 d5 d6
    replace hw4 := Below.on hw4 hC
    clear hC hb5
    obtain ⟨p1, p2, p3⟩ := HP.out
    clear HP
    match K, hK3 with
    | 0, _ =>
      cases p1
      cases p2
      cases p3
      go_wp2_with fail
      refine Calls.mono (HT3.out _ _ _ _) ?_
      rintro e y5 ⟨rfl, hv⟩
      clear HT3
      go_wp2
      go_ret
      exact ⟨rfl, bal (Below.on hw4 hv) _⟩
    | 1, _ =>
      cases p1
      cases p2
      cases p3
      go_wp2_with fail
      refine Calls.mono (HT3.out _ _ _ _) ?_
      rintro e y5 ⟨rfl, hv⟩
      clear HT3
      go_wp2
      go_ret
      exact ⟨rfl, bal (Below.on hw4 hv) _⟩
    | 2, _ =>
      cases p1
      cases p2
      cases p3
      go_wp2_with fail
      refine Calls.mono (HT3.out _ _ _ _) ?_
      rintro e y5 ⟨rfl, hv⟩
      clear HT3
      go_wp2
      go_ret
      exact ⟨rfl, bal (Below.on hw4 hv) _⟩
  · have hl1 : (60 : Int) < (len : Int) := by omega
    go_wp2
    go_ret
    exact ⟨rfl, hw⟩

end Go.Proofs.YtljmlacnfnmjbaaGreat
namespace Go.Proofs.YtljmlacnfnmjbaaGreat
open Go.ChangeShapes Go.WideShapes Go.ChangeAt Go.RowKit
set_option linter.unusedVariables false

theorem own : ownKnob Tryz.prog.godebug = none := by kernel_rfl
theorem laidOut : laidOutB Tryz.prog = true := by kernel_rfl

/-- A slice of whole numbers that came in: nil, or a row of cells with its spare room. -/
def IsRow (k : IntKind) (w : World) (a : Option Addr) (len cap : Nat) (zs : List Int) : Prop :=
  (a = none ∧ len = 0 ∧ cap = 0 ∧ zs = []) ∨
  ∃ x, a = some x ∧ len ≤ cap ∧ cap ≤ maxLen ∧ zs.length = cap ∧ (∀ i, i < zs.length → w.cell? (x.add i) = some (.int k (zs.getD i 0))) ∧ ∀ n ∈ zs, (Lit.int k n).wf = true

theorem Rd.of_row {k : IntKind} {w : World} {a : Option Addr} {len cap : Nat} {zs : List Int} (h : IsRow k w a len cap zs) : Rd k w a len cap (zs.take len) := by
  rcases h with ⟨rfl, rfl, rfl, rfl⟩ | ⟨x, rfl, hl, hm, hz, hc, hw⟩
  · exact Rd.nil k w
  · refine ⟨by simp; omega, hl, hm, fun e => by simp at e, fun hp => ?_⟩
    obtain ⟨b, off, spot⟩ := x
    have h0 := hc 0 (by omega)
    have hspot : spot = none := by simpa [Addr.add] using World.cell?_spot h0
    subst hspot
    refine ⟨b, off, rfl, fun i hi => ?_⟩
    have hi' := hc i (by omega)
    rw [show (⟨b, off, none⟩ : Addr).add i = ⟨b, off + i, none⟩ from by simp [Addr.add]] at hi'
    rw [hi', nth, List.getElem?_take_of_lt hi, List.getD]

/-- Its numbers fit their kind. -/
theorem row_wf {k : IntKind} {w : World} {a : Option Addr} {len cap : Nat} {zs : List Int} (h : IsRow k w a len cap zs) : ∀ n ∈ zs.take len, (Lit.int k n).wf = true := by
  rcases h with ⟨rfl, rfl, rfl, rfl⟩ | ⟨x, rfl, hl, hm, hz, hc, hw⟩
  · intro n hn; simp at hn
  · exact fun n hn => hw n (List.mem_of_mem_take hn)

theorem u8_of_row {w : World} {a : Option Addr} {len cap : Nat} {zs : List Int} (h : IsRow .u8 w a len cap zs) : ∀ x ∈ zs.take len, 0 ≤ x ∧ x ≤ 255 :=
  fun x hx => bounds_u8 (row_wf h x hx)

/-- A byte that came in. -/
theorem u8_is {a : Int} (h : (Lit.int .u8 a).wf = true) : ∃ x : UInt8, a = (x.toNat : Int) := by
  have := bounds_u8 h
  refine ⟨UInt8.ofNat a.toNat, ?_⟩
  rw [UInt8.toNat_ofNat']
  omega

end Go.Proofs.YtljmlacnfnmjbaaGreat
