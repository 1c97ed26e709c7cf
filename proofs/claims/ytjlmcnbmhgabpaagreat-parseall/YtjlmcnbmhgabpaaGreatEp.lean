/- The walk of ParseAll. -/
import Derived.Test.YtjlmcnbmhgabpaaGreatEn
import Derived.Test.YtjlmcnbmhgabpaaGreatEo
namespace Go.Proofs.YtjlmcnbmhgabpaaGreat
open Go.RowKit
set_option linter.unusedVariables false

theorem PaR.det {s : ByteArray} {X Y : Option Sf} {a b f e : Int} (h : PaR s X a f) (k : PaR s Y b e) : X = Y ∧ a = b ∧ f = e := by
  obtain ⟨ts, p, q, hl, h⟩ := h
  obtain ⟨ts', p', q', hl', k⟩ := k
  obtain ⟨rfl, rfl, rfl⟩ := hl.det hl'
  rcases h with ⟨h1, h2, h3, h4⟩ | ⟨h1, h⟩
  · rcases k with ⟨k1, k2, k3, k4⟩ | ⟨k1, k⟩
    · exact ⟨h2.trans k2.symm, h3.trans k3.symm, h4.trans k4.symm⟩
    · exact absurd k1 h1
  · rcases k with ⟨k1, k2, k3, k4⟩ | ⟨k1, k⟩
    · exact absurd h1 k1
    · rcases h with ⟨x, h2, h3, h4, h5, _⟩ | ⟨m, r, h2, h3, h4, h5⟩
      · rcases k with ⟨y, k2, k3, k4, k5, _⟩ | ⟨m', r', k2, k3, k4, k5⟩
        · rw [h2] at k2
          cases k2
          exact ⟨h3.trans k3.symm, h4.trans k4.symm, h5.trans k5.symm⟩
        · rw [h2] at k2; cases k2
      · rcases k with ⟨y, k2, k3, k4, k5, _⟩ | ⟨m', r', k2, k3, k4, k5⟩
        · rw [h2] at k2; cases k2
        · rw [h2] at k2
          cases k2
          exact ⟨h3.trans k3.symm, h4.trans k4.symm, h5.trans k5.symm⟩
/-- What Parse told, as SameStmt takes it. -/
theorem TeP.same {s : ByteArray} {sv : Sv} {X : Option Sf} {B : Nat} {w : World} (h0 : X = none → sv = zS 0) (h1 : ∀ m, X = some m → IsS (fun b => B ≤ b) w m.1 sv ∧ RowIs eStmt (fun b => B ≤ b) w (slV sv.inn) m.2) :
    IsS (fun b => B ≤ b) w (X.getD (sm 0, [])).1 sv ∧ RowIs eStmt (fun b => B ≤ b) w (slV sv.inn) (X.getD (sm 0, [])).2 := by
  cases X with
  | none => rw [h0 rfl]; exact ⟨IsS.zero _ _ 0, RowIs.nil _ _ _⟩
  | some m => exact h1 m rfl

set_option maxRecDepth 100000 in
set_option maxHeartbeats 4000000 in
theorem parseAll_any (s : ByteArray) (hs : s.size ≤ 9223372036854775807) (w : World) : Calls Tryz.prog 3 #[.string s] w fun e w' => e = .returned (.bool true) ∧ Below w.heap.size w w' := by
  have HB : Hid _ := hid (begun_any w)
  have HP : Hid (∀ w, _) := hid fun w => parseStmt_any s hs w
  have HQ : Hid (∀ w, _) := hid fun w => refStmt_any s hs w
  go_enter Tryz.func3, Tryz.ntmps3
  go_wp2_with fail
  refine Calls.mono HB.out ?_
  rintro e w1 ⟨rfl, hb1⟩
  clear HB
  by_cases h5 : 500 < s.size
  · have g5 : decide ((500 : Int) < (s.size : Int)) = true := by simp; omega
    go_wp2
    go_ret
    exact ⟨rfl, hb1⟩
  · have g5 : decide ((500 : Int) < (s.size : Int)) = false := by simp; omega
    have H1 : Hid _ := hid (HP.out w1)
    go_wp2_with fail
    refine Calls.mono H1.out ?_
    rintro e w2 ⟨sv, X, a, f, rfl, hb2, hp, hn, hx⟩
    have hxs := TeP.same (s := s) hn hx
    have xa := Bs.new w2 sv
    have hB2 := bal (Below.on hb1 hb2) (.cells #[.int .i64 sv.k, .string sv.tb, .string sv.nm, .slice sv.co.1 sv.co.2.1 sv.co.2.2, .slice sv.ta.1 sv.ta.2.1 sv.ta.2.2, .slice sv.va.1 sv.va.2.1 sv.va.2.2, .slice sv.it.1 sv.it.2.1 sv.it.2.2, .string sv.jn, .slice sv.on.1 sv.on.2.1 sv.on.2.2, .slice sv.wh.1 sv.wh.2.1 sv.wh.2.2, .slice sv.od.1 sv.od.2.1 sv.od.2.2, .bool sv.ds, .slice sv.inn.1 sv.inn.2.1 sv.inn.2.2] 29)
    have hK2 := bal (Below.refl _ w2) (.cells #[.int .i64 sv.k, .string sv.tb, .string sv.nm, .slice sv.co.1 sv.co.2.1 sv.co.2.2, .slice sv.ta.1 sv.ta.2.1 sv.ta.2.2, .slice sv.va.1 sv.va.2.1 sv.va.2.2, .slice sv.it.1 sv.it.2.1 sv.it.2.2, .string sv.jn, .slice sv.on.1 sv.on.2.1 sv.on.2.2, .slice sv.wh.1 sv.wh.2.1 sv.wh.2.2, .slice sv.od.1 sv.od.2.1 sv.od.2.2, .bool sv.ds, .slice sv.inn.1 sv.inn.2.1 sv.inn.2.2] 29)
    clear H1 HP hb1 hb2 hn hx
    unfold stV
    go_upto_region 6 with fail
    generalize w2.alloc (.cells #[.int .i64 sv.k, .string sv.tb, .string sv.nm, .slice sv.co.1 sv.co.2.1 sv.co.2.2, .slice sv.ta.1 sv.ta.2.1 sv.ta.2.2, .slice sv.va.1 sv.va.2.1 sv.va.2.2, .slice sv.it.1 sv.it.2.1 sv.it.2.2, .string sv.jn, .slice sv.on.1 sv.on.2.1 sv.on.2.2, .slice sv.wh.1 sv.wh.2.1 sv.wh.2.2, .slice sv.od.1 sv.od.2.1 sv.od.2.2, .bool sv.ds, .slice sv.inn.1 sv.inn.2.1 sv.inn.2.2] 29) = w3 at *
    have H3 : Hid _ := hid (HQ.out w3)
    go_wp2_with fail
    refine Calls.mono H3.out ?_
    rintro e w4 ⟨sv', X', a', f', rfl, hb4, hp', hn', hx'⟩
    obtain ⟨rfl, rfl, rfl⟩ := hp.det hp'
    have hxs' := TeP.same (s := s) hn' hx'
    have hK4 := bal (Below.refl _ w4) (.cells #[.int .i64 sv'.k, .string sv'.tb, .string sv'.nm, .slice sv'.co.1 sv'.co.2.1 sv'.co.2.2, .slice sv'.ta.1 sv'.ta.2.1 sv'.ta.2.2, .slice sv'.va.1 sv'.va.2.1 sv'.va.2.2, .slice sv'.it.1 sv'.it.2.1 sv'.it.2.2, .string sv'.jn, .slice sv'.on.1 sv'.on.2.1 sv'.on.2.2, .slice sv'.wh.1 sv'.wh.2.1 sv'.wh.2.2, .slice sv'.od.1 sv'.od.2.1 sv'.od.2.2, .bool sv'.ds, .slice sv'.inn.1 sv'.inn.2.1 sv'.inn.2.2] 29)
    have hK := Below.on hK2 (Below.on hb4 hK4)
    have hB5 := Below.on hB2 (Below.on hb4 hK4)
    have ya := xa.later (Below.on hb4 hK4)
    have yb := Bs.new w4 sv'
    have HS : Hid _ := hid (sameStmt_any (hxs.1.keep fun b _ hl => hK.block b hl) (hxs.2.keep (by decide) fun b _ hl => hK.block b hl) (hxs'.1.keep fun b _ hl => hK4.block b hl) (hxs'.2.keep (by decide) fun b _ hl => hK4.block b hl))
    clear H3 HQ hp hp' hn' hx' hxs hxs' hK hK2 hK4 hb4 hB2 xa
    unfold stV at HS ⊢
    go_upto_region 7 with fail
    generalize w4.alloc (.cells #[.int .i64 sv'.k, .string sv'.tb, .string sv'.nm, .slice sv'.co.1 sv'.co.2.1 sv'.co.2.2, .slice sv'.ta.1 sv'.ta.2.1 sv'.ta.2.2, .slice sv'.va.1 sv'.va.2.1 sv'.va.2.2, .slice sv'.it.1 sv'.it.2.1 sv'.it.2.2, .string sv'.jn, .slice sv'.on.1 sv'.on.2.1 sv'.on.2.2, .slice sv'.wh.1 sv'.wh.2.1 sv'.wh.2.2, .slice sv'.od.1 sv'.od.2.1 sv'.od.2.2, .bool sv'.ds, .slice sv'.inn.1 sv'.inn.2.1 sv'.inn.2.2] 29) = w5 at *
    generalize w2.heap.size = qa at *
    generalize w4.heap.size = qb at *
    obtain ⟨k0, k1, k2, k3, k4, k5, k6, k7, k8, k9, k10, k11, k12⟩ := ya.cells
    obtain ⟨m0, m1, m2, m3, m4, m5, m6, m7, m8, m9, m10, m11, m12⟩ := yb.cells
    have hla := ya.lt
    have hlb := yb.lt
    clear ya yb
    go_wp2_with fail
    refine Calls.mono HS.out ?_
    rintro e w6 ⟨rfl, hb6⟩
    have hB6 := Below.on hB5 hb6
    clear HS hb6 hB5
    go_wp2
    go_ret
    exact ⟨rfl, hB6⟩

end Go.Proofs.YtjlmcnbmhgabpaaGreat
