import Derived.Test.YtnboooaockgoiaaGreatDoorPap
import Derived.Test.YtnboooaockgoiaaGreatDoorPaq
namespace Go.Proofs.YtnboooaockgoiaaGreatDoor
open Go.RowKit
set_option linter.unusedVariables false

theorem Rf.start {w : World} {ts : List Tk} {ao : Option Addr} {n c : Nat} (h : RdT w ao n c ts) (he : Ended ts) (hf : ts.length ≤ 500) : Rf (w.alloc (.cells #[.slice ao n c, .int .i64 0, .int .i64 0, .int .i64 0, .int .i64 0] 89)) w.heap.size (.inr ts) 0 := by
  have hp : 0 < n := by have := he.pos; rw [h.len] at this; exact this
  obtain ⟨b, o, rfl, hc⟩ := h.cells hp
  have hb : b < w.heap.size := World.block_lt_of_cell? _ _ (hc 0 hp).1
  exact Rf.of_ok (n := 0) (all := ts) (by simp) ⟨he, by omega⟩ ⟨heap_alloc_new w _⟩ ⟨hb, hf, h.later (bal (Below.refl _ w) _), hp⟩
theorem parse_fault {ts : List Tk} {x : Int × Int} (h : stO (stmtP ts) = .inl x) : parseW ts = .inl x := by
  rw [parseW]
  cases hs : stmtP ts with
  | inl y => rw [hs] at h; cases h; rfl
  | inr y => rw [hs] at h; cases h
theorem parse_end {ts us : List Tk} (h : stO (stmtP ts) = .inr us) (h6 : kdOf us = 6) : ∃ m, stmtP ts = .inr (m, us) ∧ parseW ts = .inr (m, us) := by
  obtain ⟨m, hm⟩ := stO_inr h
  refine ⟨m, hm, ?_⟩
  rw [parseW, hm]
  show (if kdOf us = 6 then _ else _) = _
  rw [if_pos h6]
theorem parse_more {ts us : List Tk} (h : stO (stmtP ts) = .inr us) (h6 : kdOf us ≠ 6) : parseW ts = .inl (atOf us, 5) := by
  obtain ⟨m, hm⟩ := stO_inr h
  rw [parseW, hm]
  show (if kdOf us = 6 then _ else _) = _
  rw [if_neg h6]

set_option maxRecDepth 100000 in
set_option maxHeartbeats 8000000 in
theorem refStmt_any (s : ByteArray) (hs : s.size ≤ 9223372036854775807) (w : World) : Calls Tryz.prog 16 #[.string s] w (TeP s w) := by
  have HL : Hid _ := hid (refLex_any s hs (w.alloc (.cells #[.int .i64 0, .string ⟨#[]⟩, .string ⟨#[]⟩, .slice none 0 0, .slice none 0 0, .slice none 0 0, .slice none 0 0, .string ⟨#[]⟩, .slice none 0 0, .slice none 0 0, .slice none 0 0, .bool false, .slice none 0 0] 48)))
  have b0 := Bs.new w (zS 0)
  go_enter Tryz.func16, Tryz.ntmps16
  go_wp2_with fail
  refine Calls.mono HL.out ?_
  rintro e w1 ⟨ao, n, c, ts, a1, e1, rfl, hrd, hlx, hb1⟩
  have z1 := b0.later hb1
  have hB1 : Below w.heap.size w w1 := ((Below.refl _ w).alloc (Nat.le_refl _) _).trans (hb1.mono (by simp))
  have hsz1 : w.heap.size < w1.heap.size := z1.lt
  clear HL b0 hb1
  by_cases he : e1 = 0
  · subst he
    obtain ⟨hen, hfw, rfl⟩ := hlx.ended rfl
    have hr2 := Rf.start hrd hen hfw
    have HX : Hid _ := hid hlx
    have z2 := z1.later (bal (Below.refl _ _) (.cells #[.slice ao n c, .int .i64 0, .int .i64 0, .int .i64 0, .int .i64 0] 89))
    have hB2 := hB1.alloc hB1.size (.cells #[.slice ao n c, .int .i64 0, .int .i64 0, .int .i64 0, .int .i64 0] 89)
    have HS : Hid _ := hid (fStmt_any hr2 rfl)
    clear hlx hrd hen hfw z1 hr2
    go_wp2_with fail
    refine Calls.mono HS.out ?_
    rintro e w3 ⟨s3, rfl, hb3, hr3, hx3⟩
    have z3 := z2.but hb3 (by omega)
    have hB3 := but_below hB2 hb3 (by omega)
    have hsz3 := hb3.size
    rw [World.size_alloc] at hsz3
    have z4 := z3.later (bal (Below.refl _ w3) (.cells #[.int .i64 s3.k, .string s3.tb, .string s3.nm, .slice s3.co.1 s3.co.2.1 s3.co.2.2, .slice s3.ta.1 s3.ta.2.1 s3.ta.2.2, .slice s3.va.1 s3.va.2.1 s3.va.2.2, .slice s3.it.1 s3.it.2.1 s3.it.2.2, .string s3.jn, .slice s3.on.1 s3.on.2.1 s3.on.2.2, .slice s3.wh.1 s3.wh.2.1 s3.wh.2.2, .slice s3.od.1 s3.od.2.1 s3.od.2.2, .bool s3.ds, .slice s3.inn.1 s3.inn.2.1 s3.inn.2.2] 48))
    have hr4 := hr3.alloc (.cells #[.int .i64 s3.k, .string s3.tb, .string s3.nm, .slice s3.co.1 s3.co.2.1 s3.co.2.2, .slice s3.ta.1 s3.ta.2.1 s3.ta.2.2, .slice s3.va.1 s3.va.2.1 s3.va.2.2, .slice s3.it.1 s3.it.2.1 s3.it.2.2, .string s3.jn, .slice s3.on.1 s3.on.2.1 s3.on.2.2, .slice s3.wh.1 s3.wh.2.1 s3.wh.2.2, .slice s3.od.1 s3.od.2.1 s3.od.2.2, .bool s3.ds, .slice s3.inn.1 s3.inn.2.1 s3.inn.2.2] 48)
    have hB4 := hB3.alloc hB3.size (.cells #[.int .i64 s3.k, .string s3.tb, .string s3.nm, .slice s3.co.1 s3.co.2.1 s3.co.2.2, .slice s3.ta.1 s3.ta.2.1 s3.ta.2.2, .slice s3.va.1 s3.va.2.1 s3.va.2.2, .slice s3.it.1 s3.it.2.1 s3.it.2.2, .string s3.jn, .slice s3.on.1 s3.on.2.1 s3.on.2.2, .slice s3.wh.1 s3.wh.2.1 s3.wh.2.2, .slice s3.od.1 s3.od.2.1 s3.od.2.2, .bool s3.ds, .slice s3.inn.1 s3.inn.2.1 s3.inn.2.2] 48)
    have x4 := Bs.new w3 s3
    have HX4 : Hid (∀ m r, stmtP ts = .inr (m, r) → IsS (fun b => w1.heap.size + 1 ≤ b) (w3.alloc (.cells #[.int .i64 s3.k, .string s3.tb, .string s3.nm, .slice s3.co.1 s3.co.2.1 s3.co.2.2, .slice s3.ta.1 s3.ta.2.1 s3.ta.2.2, .slice s3.va.1 s3.va.2.1 s3.va.2.2, .slice s3.it.1 s3.it.2.1 s3.it.2.2, .string s3.jn, .slice s3.on.1 s3.on.2.1 s3.on.2.2, .slice s3.wh.1 s3.wh.2.1 s3.wh.2.2, .slice s3.od.1 s3.od.2.1 s3.od.2.2, .bool s3.ds, .slice s3.inn.1 s3.inn.2.1 s3.inn.2.2] 48)) m.1 s3 ∧ RowIs eStmt (fun b => w1.heap.size + 1 ≤ b) (w3.alloc (.cells #[.int .i64 s3.k, .string s3.tb, .string s3.nm, .slice s3.co.1 s3.co.2.1 s3.co.2.2, .slice s3.ta.1 s3.ta.2.1 s3.ta.2.2, .slice s3.va.1 s3.va.2.1 s3.va.2.2, .slice s3.it.1 s3.it.2.1 s3.it.2.2, .string s3.jn, .slice s3.on.1 s3.on.2.1 s3.on.2.2, .slice s3.wh.1 s3.wh.2.1 s3.wh.2.2, .slice s3.od.1 s3.od.2.1 s3.od.2.2, .bool s3.ds, .slice s3.inn.1 s3.inn.2.1 s3.inn.2.2] 48)) (slV s3.inn) m.2) := hid fun m r e => by
      obtain ⟨h1, h2⟩ := hx3 m r e
      simp only [World.size_alloc] at h1 h2
      exact ⟨h1.keep fun b hq hlt => (bal (Below.refl _ w3) _).block b hlt, h2.keep (by decide) fun b hq hlt => (bal (Below.refl _ w3) _).block b hlt⟩
    have hst : stO (runP stmtP (.inr ts)) = stO (stmtP ts) := rfl
    rw [hst] at hr4
    clear HS hb3 hr3 hx3 hB2 hB3 z2 z3 hst
    unfold stV
    go_upto_region 6 with fail
    generalize w3.alloc (.cells #[.int .i64 s3.k, .string s3.tb, .string s3.nm, .slice s3.co.1 s3.co.2.1 s3.co.2.2, .slice s3.ta.1 s3.ta.2.1 s3.ta.2.2, .slice s3.va.1 s3.va.2.1 s3.va.2.2, .slice s3.it.1 s3.it.2.1 s3.it.2.2, .string s3.jn, .slice s3.on.1 s3.on.2.1 s3.on.2.2, .slice s3.wh.1 s3.wh.2.1 s3.wh.2.2, .slice s3.od.1 s3.od.2.1 s3.od.2.2, .bool s3.ds, .slice s3.inn.1 s3.inn.2.1 s3.inn.2.2] 48) = w4 at *
    generalize w3.heap.size = q at *
    generalize w1.heap.size = g at *
    cases hST : stO (stmtP ts) with
    | inl x =>
      rw [hST] at hr4
      have HF : Hid _ := hid (parse_fault hST)
      have hr6 := hr4
      have z6 := z4
      have hB6 := hB4
      clear hST hr4 z4 hB4 HX4 x4
      obtain ⟨b', o', N', c', n', all', d', hx2, -, -, hq, -⟩ := Rf.bad (x := x) hr6
      obtain ⟨c0, c1, c2, c3, c4⟩ := hq.cells
      have g3 : (x.2 != 0) = true := by simpa using hx2
      have g4 : (x.2 == 0) = false := by simpa using hx2
      have hgl6 := hr6.lt
      obtain ⟨m0, m1, m2, m3, m4, m5, m6, m7, m8, m9, m10, m11, m12⟩ := z6.cells
      obtain ⟨n0, n1, n2, n3, n4, n5, n6, n7, n8, n9, n10, n11, n12⟩ := z6.free
      have hzl := z6.lt
      have HF2 : Hid (PaR s none x.1 x.2) := hid ⟨ts, 0, 0, HX.out, .inr ⟨rfl, .inl ⟨x, HF.out, rfl, rfl, rfl, hx2⟩⟩⟩
      have hB8 : Hid (Below w.heap.size w (set13 w4 w.heap.size (zS 0)).drew) := hid (set13_below hB6 (zS 0)).drew
      clear HX HF hx2 hB6 z6 hq hr6
      go_upto_region 9 with fail
      go_region
      all_goals
        go_wp2
        refine bodyPost_ret (v := .tuple #[stV (zS 0), .int .i64 x.1, .int .i64 x.2]) (by simp [results, Tryz.results16, go_sem, stV, m0, m1, m2, m3, m4, m5, m6, m7, m8, m9, m10, m11, m12]) rfl ?_
        exact ⟨zS 0, none, x.1, x.2, rfl, hB8.out, HF2.out, fun _ => rfl, fun m e => by cases e⟩
    | inr us =>
      rw [hST] at hr4
      have HN : Hid _ := hid (fNow_any hr4)
      have hf := fld_kind
      unfold TfNow tkA at HN
      obtain ⟨b', o', N', c', n', all', -, hend, hq, -⟩ := hr4.ok
      obtain ⟨c0, c1, c2, c3, c4⟩ := hq.cells
      have hgl4 := hr4.lt
      clear hq
      match us, hST, hr4, hend, HN with
      | [], hST, hr4, hend, HN => exact hend.1.elim
      | t :: us, hST, hr4, hend, HN =>
        clear hend
        by_cases h6 : t.1 = 6
        · obtain ⟨m, hm, hP⟩ := parse_end hST h6
          have HF : Hid (PaR s (some m) 0 0) := hid ⟨ts, 0, 0, HX.out, .inr ⟨rfl, .inr ⟨m, _, hP, rfl, rfl, rfl⟩⟩⟩
          go_wp2_with fail
          refine Calls.mono HN.out ?_
          rintro e w5 ⟨t', rfl, hb5, ht⟩
          obtain rfl : t' = t := ht rfl
          obtain ⟨t0, t1, t2, t3⟩ := t'
          replace h6 : t0 = 6 := h6
          subst h6
          have hr6 := hr4.later hb5
          have z6 := z4.later hb5
          have x6 := x4.later hb5
          have hB6 : Below w.heap.size w w5 := hB4.trans (hb5.mono (by have := z4.lt; omega))
          obtain ⟨b'', o'', N'', c'', n'', all'', -, -, hq, -⟩ := hr6.ok
          obtain ⟨d0, d1, d2, d3, d4⟩ := hq.cells
          have hgl6 := hr6.lt
          obtain ⟨k0, k1, k2, k3, k4, k5, k6, k7, k8, k9, k10, k11, k12⟩ := x6.cells
          have hxl := x6.lt
          obtain ⟨m0, m1, m2, m3, m4, m5, m6, m7, m8, m9, m10, m11, m12⟩ := z6.cells
          obtain ⟨n0, n1, n2, n3, n4, n5, n6, n7, n8, n9, n10, n11, n12⟩ := z6.free
          have hzl := z6.lt
          have T : Hid (IsS (fun b => w.heap.size ≤ b) (set13 w5 w.heap.size s3) m.1 s3 ∧ RowIs eStmt (fun b => w.heap.size ≤ b) (set13 w5 w.heap.size s3) (slV s3.inn) m.2) := hid (by
            obtain ⟨h1, h2⟩ := HX4.out m _ hm
            exact ⟨((h1.keep fun b hq hlt => hb5.block b hlt).keep fun b hq hlt => set13_heap _ _ _ (by omega)).mono fun b hb _ => by omega, ((h2.keep (by decide) fun b hq hlt => hb5.block b hlt).keep (by decide) fun b hq hlt => set13_heap _ _ _ (by omega)).mono (by decide) fun b hb _ => by omega⟩)
          have hB7 : Hid _ := hid (set13_below hB6 s3)
          clear HN HX HX4 hST hm hP hr4 hr6 hq hb5 hB4 hB6 z4 z6 x4 x6 ht c0 c1 c2 c3 c4
          go_wp2
          refine bodyPost_ret (v := .tuple #[stV s3, .int .i64 0, .int .i64 0]) (by simp [results, Tryz.results16, go_sem, stV, m0, m1, m2, m3, m4, m5, m6, m7, m8, m9, m10, m11, m12]) rfl ?_
          exact ⟨s3, some m, 0, 0, rfl, hB7.out, HF.out, fun e => (by cases e), fun m' e => by cases e; exact T.out⟩
        · have HF : Hid _ := hid (parse_more hST h6)
          go_wp2_with fail
          refine Calls.mono HN.out ?_
          rintro e w5 ⟨t', rfl, hb5, ht⟩
          obtain rfl : t' = t := ht rfl
          obtain ⟨t0, t1, t2, t3⟩ := t'
          replace h6 : t0 ≠ 6 := h6
          have g6 : (t0 != 6) = true := by simpa using h6
          have hr5 := hr4.later hb5
          have z5 := z4.later hb5
          have hB5 : Below w.heap.size w w5 := hB4.trans (hb5.mono (by have := z4.lt; omega))
          have HFl : Hid _ := hid (fFail_any hr5 5 (by decide))
          clear HN HX4 hST hr4 hr5 hb5 hB4 z4 x4 ht c0 c1 c2 c3 c4 h6
          go_wp2_with fail
          refine Calls.mono HFl.out ?_
          rintro e w6 ⟨rfl, hr6, hb6⟩
          have z6 := z5.but hb6 (by omega)
          have hB6 := but_below hB5 hb6 (by omega)
          rw [show failS 5 (.inr ((t0, t1, t2, t3) :: us)) = .inl (t3, 5) from rfl] at hr6
          replace HF : Hid (parseW ts = .inl (t3, 5)) := HF
          generalize hx : ((t3, 5) : Int × Int) = x at *
          clear HFl hb6 z5 hB5 hx
          obtain ⟨b', o', N', c', n', all', d', hx2, -, -, hq, -⟩ := Rf.bad (x := x) hr6
          obtain ⟨c0, c1, c2, c3, c4⟩ := hq.cells
          have g3 : (x.2 != 0) = true := by simpa using hx2
          have g4 : (x.2 == 0) = false := by simpa using hx2
          have hgl6 := hr6.lt
          obtain ⟨m0, m1, m2, m3, m4, m5, m6, m7, m8, m9, m10, m11, m12⟩ := z6.cells
          obtain ⟨n0, n1, n2, n3, n4, n5, n6, n7, n8, n9, n10, n11, n12⟩ := z6.free
          have hzl := z6.lt
          have HF2 : Hid (PaR s none x.1 x.2) := hid ⟨ts, 0, 0, HX.out, .inr ⟨rfl, .inl ⟨x, HF.out, rfl, rfl, rfl, hx2⟩⟩⟩
          have hB8 : Hid (Below w.heap.size w (set13 w6 w.heap.size (zS 0)).drew) := hid (set13_below hB6 (zS 0)).drew
          clear HX HF hx2 hB6 z6 hq hr6
          go_upto_region 9 with fail
          go_region
          all_goals
            go_wp2
            refine bodyPost_ret (v := .tuple #[stV (zS 0), .int .i64 x.1, .int .i64 x.2]) (by simp [results, Tryz.results16, go_sem, stV, m0, m1, m2, m3, m4, m5, m6, m7, m8, m9, m10, m11, m12]) rfl ?_
            exact ⟨zS 0, none, x.1, x.2, rfl, hB8.out, HF2.out, fun _ => rfl, fun m e => by cases e⟩
  · have g1 : (e1 != 0) = true := by simpa using he
    have HF : Hid (PaR s none a1 e1) := hid ⟨ts, a1, e1, hlx, .inl ⟨he, rfl, rfl, rfl⟩⟩
    obtain ⟨m0, m1, m2, m3, m4, m5, m6, m7, m8, m9, m10, m11, m12⟩ := z1.cells
    obtain ⟨n0, n1, n2, n3, n4, n5, n6, n7, n8, n9, n10, n11, n12⟩ := z1.free
    have hB7 : Hid _ := hid (set13_below hB1 (zS 0))
    clear hlx hrd he hB1 z1
    go_wp2
    refine bodyPost_ret (v := .tuple #[stV (zS 0), .int .i64 a1, .int .i64 e1]) (by simp [results, Tryz.results16, go_sem, stV, m0, m1, m2, m3, m4, m5, m6, m7, m8, m9, m10, m11, m12]) rfl ?_
    exact ⟨zS 0, none, a1, e1, rfl, hB7.out, HF.out, fun _ => rfl, fun m e => by cases e⟩

end Go.Proofs.YtnboooaockgoiaaGreatDoor
namespace Go.Proofs.YtnboooaockgoiaaGreatDoor
open Go.RowKit
set_option linter.unusedVariables false

end Go.Proofs.YtnboooaockgoiaaGreatDoor
namespace Go.Proofs.YtnboooaockgoiaaGreatDoor
open Go.RowKit
set_option linter.unusedVariables false

/-- SameExpr says yes of this expression. -/
def SameOK (t : Tr) : Prop := ∀ (Q Q' : Nat → Prop) (w : World) (v v' : Value), Ex Q w t v → Ex Q' w t v' → Calls Tryz.prog 77 #[v, v'] w fun e w' => e = .returned (.bool true) ∧ Below w.heap.size w w'
theorem RowIs.at {Q : Nat → Prop} {w : World} {a : Option Addr} {n c : Nat} {l : List Tr} (h : RowIs eExpr Q w (.slice a n c) l) {k : Nat} (hk : k < l.length) : ∃ b o op p a' n' c', a = some ⟨b, o, none⟩ ∧ Ce w b (o + k * 7) op p (.slice a' n' c') ∧ Ex Q w l[k] (exV op p (.slice a' n' c')) := by
  obtain ⟨ao, n0, c0, hv, hl, _, _, hx⟩ := h
  cases hv
  obtain ⟨b, o, ha, _, hi⟩ := hx (by omega)
  obtain ⟨cs, ⟨op, p, a', n', c', rfl, hE⟩, _, hc⟩ := hi k hk
  refine ⟨b, o, op, p, a', n', c', ha, ?_, hE⟩
  exact ⟨hc 0 (show 0 < 7 by decide), hc 1 (show 1 < 7 by decide), hc 2 (show 2 < 7 by decide), hc 3 (show 3 < 7 by decide), hc 4 (show 4 < 7 by decide), hc 5 (show 5 < 7 by decide), hc 6 (show 6 < 7 by decide)⟩

set_option maxRecDepth 100000 in
set_option maxHeartbeats 2000000 in
theorem sameExprs_any {l : List Tr} (hl : ∀ t ∈ l, SameOK t) {Q Q' : Nat → Prop} {w : World} {v v' : Value} (h1 : RowIs eExpr Q w v l) (h2 : RowIs eExpr Q' w v' l) :
    Calls Tryz.prog 41 #[v, v'] w fun e w' => e = .returned (.bool true) ∧ Below w.heap.size w w' := by
  obtain ⟨a1, n, c1, rfl, hl1, hn1, hc1, hx1⟩ := id h1
  obtain ⟨a2, n2, c2, rfl, hl2, hn2, hc2, hx2⟩ := id h2
  obtain rfl : n2 = n := by omega
  clear hx1 hx2
  have HK : Hid (∀ k, k < n2 → ∀ w1, Below w.heap.size w w1 → ∃ b o op p a n c b' o' op' p' a' n' c', a1 = some ⟨b, o, none⟩ ∧ a2 = some ⟨b', o', none⟩ ∧ Ce w1 b (o + k * 7) op p (.slice a n c) ∧ Ce w1 b' (o' + k * 7) op' p' (.slice a' n' c') ∧
      ∀ w2, Below w.heap.size w w2 → Calls Tryz.prog 77 #[exV op p (.slice a n c), exV op' p' (.slice a' n' c')] w2 fun e w' => e = .returned (.bool true) ∧ Below w2.heap.size w2 w') := hid fun k hk w1 hb => by
    obtain ⟨b, o, op, p, a, n, c, e1, q1, x1⟩ := h1.at (k := k) (by omega)
    obtain ⟨b', o', op', p', a', n', c', e2, q2, x2⟩ := h2.at (k := k) (by omega)
    exact ⟨b, o, op, p, a, n, c, b', o', op', p', a', n', c', e1, e2, q1.keep (hb.block _ q1.lt), q2.keep (hb.block _ q2.lt), fun w2 hb2 => hl _ (List.getElem_mem _) Q Q' w2 _ _ (x1.later hb2) (x2.later hb2)⟩
  clear h1 h2 hl hl1 hl2
  generalize n2 = n at *
  go_enter Tryz.func41, Tryz.ntmps41
  go_wp2
  go_loopw [5] (fun v5 wr => ∃ k : Nat, k ≤ n ∧ v5 = .int .i64 k ∧ Hid (Below w.heap.size w wr)) (fun v5 _ => n - (intOf v5).toNat)
  case atStart => exact ⟨0, Nat.zero_le _, rfl, hid (Below.refl _ _)⟩
  case round =>
    obtain ⟨k, hk, rfl, HB⟩ := hrel
    by_cases hlt : k < n
    · obtain ⟨b, o, op, p, a, m, c, b', o', op', p', a', m', c', rfl, rfl, q1, q2, hcall⟩ := HK.out k hlt wr HB.out
      have HC : Hid _ := hid (hcall wr.drew HB.out.drew)
      have hBd : Below w.heap.size w wr.drew := HB.out.drew
      obtain ⟨k0, k1, k2, k3, k4, k5, k6⟩ := q1
      obtain ⟨j0, j1, j2, j3, j4, j5, j6⟩ := q2
      unfold exV at HC
      clear hcall HK HB
      go_upto_region 6 with fail
      go_region_with (first | (refine Calls.mono HC.out ?_; rintro e z1 ⟨rfl, hb1⟩))
      all_goals
        have hB1 := Below.on hBd hb1
        clear HC hb1 hBd
        go_wp2
        go_roundw
        case rel => exact ⟨k + 1, by omega, by go_num, hid hB1⟩
        case measure => simp only [intOf]; omega
    · obtain rfl : k = n := by omega
      have hB := HB.out
      clear HK HB
      go_wp2
      go_ret
      exact ⟨rfl, hB⟩

def kids (l r : Tr) : List Tr := if noT l then [] else if noT r then [l] else [l, r]
theorem Ex.kids {Q : Nat → Prop} {w : World} {x op : Nat} {p : Pay} {l r : Tr} {v : Value} (h : Ex Q w (.node x op p l r) v) : ∃ ao n c, v = exV op p (.slice ao n c) ∧ n = (kids l r).length ∧ n ≤ c ∧ c ≤ 9223372036854775807 ∧ RowIs eExpr Q w (.slice ao n c) (Go.Proofs.YtnboooaockgoiaaGreatDoor.kids l r) := by
  obtain ⟨ao, n, c, hv, hn, hc, h⟩ := h
  rcases h with ⟨h1, h2, rfl⟩ | ⟨h1, h2, rfl, b, o, op1, p1, a1, n1, c1, rfl, hq, hx, hl⟩ | ⟨h1, h2, rfl, b, o, op1, p1, a1, n1, c1, op2, p2, a2, n2, c2, rfl, hq, hx, hy, hl, hr⟩
  · have e : Go.Proofs.YtnboooaockgoiaaGreatDoor.kids l r = [] := by rw [Go.Proofs.YtnboooaockgoiaaGreatDoor.kids, if_pos h1]
    rw [e]
    exact ⟨ao, 0, c, hv, rfl, hn, hc, ao, 0, c, rfl, rfl, hn, by omega, fun h => absurd h (by decide)⟩
  · have e : Go.Proofs.YtnboooaockgoiaaGreatDoor.kids l r = [l] := by rw [Go.Proofs.YtnboooaockgoiaaGreatDoor.kids, if_neg (by rw [h1]; simp), if_pos h2]
    rw [e]
    refine ⟨_, 1, c, hv, rfl, hn, hc, _, 1, c, rfl, rfl, hn, by omega, fun _ => ⟨b, o, rfl, hq, fun i hi => ?_⟩⟩
    obtain rfl : i = 0 := by simp at hi; omega
    obtain ⟨q0, q1, q2, q3, q4, q5, q6⟩ := hx
    refine ⟨exC op1 p1 (.slice a1 n1 c1), ⟨op1, p1, a1, n1, c1, rfl, hl⟩, rfl, fun j hj => ?_⟩
    have hj' : j < 7 := hj
    match j, hj' with
    | 0, _ => exact q0
    | 1, _ => exact q1
    | 2, _ => exact q2
    | 3, _ => exact q3
    | 4, _ => exact q4
    | 5, _ => exact q5
    | 6, _ => exact q6
  · have e : Go.Proofs.YtnboooaockgoiaaGreatDoor.kids l r = [l, r] := by rw [Go.Proofs.YtnboooaockgoiaaGreatDoor.kids, if_neg (by rw [h1]; simp), if_neg (by rw [h2]; simp)]
    rw [e]
    refine ⟨_, 2, c, hv, rfl, hn, hc, _, 2, c, rfl, rfl, hn, by omega, fun _ => ⟨b, o, rfl, hq, fun i hi => ?_⟩⟩
    have hi' : i < 2 := hi
    match i, hi' with
    | 0, _ =>
      obtain ⟨q0, q1, q2, q3, q4, q5, q6⟩ := hx
      refine ⟨exC op1 p1 (.slice a1 n1 c1), ⟨op1, p1, a1, n1, c1, rfl, hl⟩, rfl, fun j hj => ?_⟩
      have hj' : j < 7 := hj
      match j, hj' with
      | 0, _ => exact q0
      | 1, _ => exact q1
      | 2, _ => exact q2
      | 3, _ => exact q3
      | 4, _ => exact q4
      | 5, _ => exact q5
      | 6, _ => exact q6
    | 1, _ =>
      obtain ⟨q0, q1, q2, q3, q4, q5, q6⟩ := hy
      refine ⟨exC op2 p2 (.slice a2 n2 c2), ⟨op2, p2, a2, n2, c2, rfl, hr⟩, rfl, fun j hj => ?_⟩
      have hj' : j < 7 := hj
      match j, hj' with
      | 0, _ => exact q0
      | 1, _ => exact q1
      | 2, _ => exact q2
      | 3, _ => exact q3
      | 4, _ => exact q4
      | 5, _ => exact q5
      | 6, _ => exact q6

set_option maxRecDepth 100000 in
set_option maxHeartbeats 2000000 in
theorem sameNode {x op : Nat} {p : Pay} {l r : Tr} (hk : ∀ t ∈ kids l r, SameOK t) : SameOK (.node x op p l r) := by
  intro Q Q' w v v' h1 h2
  obtain ⟨a1, n, c1, rfl, hl1, hn1, hc1, r1⟩ := h1.kids
  obtain ⟨a2, n2, c2, rfl, hl2, hn2, hc2, r2⟩ := h2.kids
  obtain rfl : n2 = n := by omega
  have HS : Hid (∀ w1, Below w.heap.size w w1 → _) := hid fun w1 hb => sameExprs_any hk (r1.later (by decide) hb) (r2.later (by decide) hb)
  obtain ⟨k1, i1, s1, t1, m1⟩ := p
  have hne : ∀ w, (binOp .neq 40 (.agg #[.int .i64 k1, .int .i64 i1, .string s1]) (.agg #[.int .i64 k1, .int .i64 i1, .string s1])).run Tryz.prog w = .ok (.bool false) w := fun w => by go_simp
  generalize (kids l r).length = kl at *
  clear h1 h2 r1 r2 hk hl1 hl2
  unfold exV
  go_enter Tryz.func77, Tryz.ntmps77
  go_wp2_with fail
  refine Calls.mono (HS.out _ (bal (bal (Below.refl _ w) _) _)) ?_
  rintro e w1 ⟨rfl, hb1⟩
  have hB := Below.on (bal (bal (Below.refl _ w) _) _) hb1
  clear HS hb1
  go_wp2
  go_ret
  exact ⟨rfl, hB⟩
theorem sameExpr_all (t : Tr) : SameOK t := by
  induction t with
  | nil => intro Q Q' w v v' h; exact h.elim
  | node x op p l r ihl ihr =>
    refine sameNode fun t ht => ?_
    unfold kids at ht
    split at ht
    · cases ht
    · split at ht
      · rw [List.mem_singleton] at ht; subst ht; exact ihl
      · rcases List.mem_cons.1 ht with rfl | ht
        · exact ihl
        · rw [List.mem_singleton] at ht; subst ht; exact ihr

end Go.Proofs.YtnboooaockgoiaaGreatDoor
namespace Go.Proofs.YtnboooaockgoiaaGreatDoor
open Go.RowKit
set_option linter.unusedVariables false

theorem got_list {p : UInt8 → Bool} {s : ByteArray} {A B : List UInt8} (h : bs s = A ++ B) : got p s A.length = (B[0]?).any p := by
  rw [got, h, List.getElem?_append_right (Nat.le_refl _), Nat.sub_self]
theorem got_list1 {p : UInt8 → Bool} {s : ByteArray} {A B : List UInt8} (h : bs s = A ++ B) : got p s (A.length + 1) = (B[1]?).any p := by
  rw [got, h, List.getElem?_append_right (by omega), show A.length + 1 - A.length = 1 from by omega]
theorem till_list {p : UInt8 → Bool} {s : ByteArray} {A B : List UInt8} (h : bs s = A ++ B) : till p s A.length = A.length + (B.takeWhile p).length := by
  rw [till, h, List.drop_left]
theorem size_list {s : ByteArray} {A B : List UInt8} (h : bs s = A ++ B) : s.size = A.length + B.length := by rw [← bs_length, h, List.length_append]
theorem extract_list {s : ByteArray} {A n r : List UInt8} (h : bs s = A ++ (n ++ r)) : s.extract A.length (A.length + n.length) = ⟨n.toArray⟩ := by
  apply ByteArray.ext
  apply Array.toList_inj.1
  have h' : s.data.toList = A ++ (n ++ r) := h
  rw [ByteArray.data_extract, Array.toList_extract, h']
  simp
theorem lx_congr {s : ByteArray} {k k' : Nat} (hw : wordW s k = wordW s k') {l : List Tk} {a e : Int} (h : Lx s k' l a e) : Lx s k l a e := by
  obtain ⟨n, hn⟩ := h.steps
  cases n with
  | zero => exact hn.elim
  | succ n =>
    refine ⟨n + 1, ?_⟩
    have hn' : LxS s (LxN s n) k' l a e := hn
    show LxS s (LxN s n) k l a e
    unfold LxS at hn' ⊢
    rw [hw]
    exact hn'
theorem lx_space {s : ByteArray} {A r : List UInt8} (h : bs s = A ++ 32 :: r) {l : List Tk} {a e : Int} (hx : Lx s (A.length + 1) l a e) : Lx s A.length l a e := by
  refine lx_congr ?_ hx
  unfold wordW
  rw [till_step (by rw [got_list h]; rfl)]
theorem lx_cons {s : ByteArray} {k n : Nat} {t : Tk} (hw : wordW s k = wrd t n) (h6 : t.1 ≠ 6) {l : List Tk} (hx : Lx s n l 0 0) : Lx s k (t :: l) 0 0 := by
  have := Lx.more k l (by rw [hw]; rfl) (by rw [hw]; exact h6) (by rw [hw]; exact hx)
  rw [hw] at this
  exact this
theorem word_ns {s : ByteArray} {A r : List UInt8} {c : UInt8} (h : bs s = A ++ c :: r) (hc : isB 32 c = false) : wordW s A.length = oneW s A.length := by
  unfold wordW
  rw [till_stop (by rw [got_list h]; exact hc), endW, if_neg (by have := size_list h; simp at this; omega)]
/-- A sign of one byte. -/
theorem lx_sign {s : ByteArray} {A r : List UInt8} {c : UInt8} (h : bs s = A ++ c :: r) (hc : isO c = true) {l : List Tk} (hx : Lx s (A.length + 1) l 0 0) : Lx s A.length ((5, ⟨#[c]⟩, 0, (A.length : Int)) :: l) 0 0 := by
  have tab : ∀ c : Fin 256, isO (UInt8.ofNat c) = true → isB 32 (UInt8.ofNat c) = false ∧ isL (UInt8.ofNat c) = false ∧ isDig (UInt8.ofNat c) = false ∧ isB 39 (UInt8.ofNat c) = false ∧ isB 60 (UInt8.ofNat c) = false ∧ isB 62 (UInt8.ofNat c) = false := by decide +kernel
  have hcc : UInt8.ofNat c.toNat = c := by simp
  obtain ⟨h1, h2, h3, h4, h5, h6⟩ := tab ⟨c.toNat, c.toNat_lt⟩ (by simpa using hc)
  simp only [hcc] at h1 h2 h3 h4 h5 h6
  refine lx_cons (n := A.length + 1) ?_ (by simp) hx
  have hsg : sgn s A.length = 1 := by
    rw [sgn, if_neg (by rw [got_list h]; simp [h5]), if_neg (by rw [got_list h]; simp [h6]), if_pos (by rw [got_list h]; simp [hc])]
  rw [word_ns h h1, oneW, if_neg (by rw [got_list h]; simp [h2]), if_neg (by rw [got_list h]; simp [h3]), if_neg (by rw [got_list h]; simp [h4]), sgnW, hsg, if_neg (by decide), show s.extract A.length (A.length + 1) = ⟨#[c]⟩ from extract_list (n := [c]) h]
/-- A name, or a word that is none. -/
theorem lx_name {s : ByteArray} {A n r : List UInt8} {c : UInt8} (h : bs s = A ++ (c :: n ++ r)) (hc : isL c = true) (hn : n.all isN = true) (hr : (r[0]?).any isN = false) (hl : n.length < 16) {l : List Tk} (hx : Lx s (A.length + (n.length + 1)) l 0 0) :
    Lx s A.length ((if isW ⟨(c :: n).toArray⟩ then 2 else 1, ⟨(c :: n).toArray⟩, 0, (A.length : Int)) :: l) 0 0 := by
  have h' : bs s = A ++ c :: (n ++ r) := by simpa using h
  have hsp : isB 32 c = false := by
    have tab : ∀ c : Fin 256, isL (UInt8.ofNat c) = true → isB 32 (UInt8.ofNat c) = false := by decide +kernel
    have := tab ⟨c.toNat, c.toNat_lt⟩ (by simpa using hc)
    simpa using this
  have ht : till isN s A.length = A.length + (n.length + 1) := by
    rw [till_list h]
    congr 1
    have hN : isN c = true := by rw [isN, hc]; rfl
    rw [List.takeWhile_append_of_pos (by
      intro x hx
      rcases List.mem_cons.1 hx with rfl | hx
      · exact hN
      · exact List.all_eq_true.1 hn x hx), List.length_append, List.length_cons]
    cases r with
    | nil => simp
    | cons x r =>
      have : isN x = false := by simpa using hr
      rw [List.takeWhile_cons, this]
      simp
  have he := extract_list (n := c :: n) h
  rw [List.length_cons] at he
  refine lx_cons (n := A.length + (n.length + 1)) ?_ (by simp only []; split <;> decide) hx
  rw [word_ns h' hsp, oneW, if_pos (by rw [got_list h']; simp [hc]), nameW, ht, if_neg (by omega), he]
theorem lx_fin {s : ByteArray} : Lx s s.size [(6, ⟨#[]⟩, 0, (s.size : Int))] 0 0 := by
  have hw : wordW s s.size = wrd (6, ⟨#[]⟩, 0, s.size) s.size := by
    unfold wordW
    rw [till_stop (got_end (Nat.le_refl _)), endW, if_pos rfl]
  have := Lx.fin (s := s) s.size (by rw [hw]; rfl) (by rw [hw]; rfl)
  rw [hw] at this
  exact this

end Go.Proofs.YtnboooaockgoiaaGreatDoor
