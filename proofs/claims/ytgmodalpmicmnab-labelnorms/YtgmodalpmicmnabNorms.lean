/- The walk of the statement LabelNorms. -/
import Derived.Test.YtgmodalpmicmnabS16
import Derived.Deep.CutBlock
import Derived.Maps.AppendAt
import Derived.Deep.DeepCutAuto
namespace Go.Proofs.Ytgmodalpmicmnab
open Go.RowKit
set_option linter.unusedVariables false

theorem inB_snoc {ys : List Int} {j : Nat} {t : Int} (h : j < ys.length) : inB (ys.take (j + 1)) t = (inB (ys.take j) t || (nth ys j == t)) := by
  rw [List.take_succ_eq_append_getElem h, nth, List.getElem?_eq_getElem h, inB, inB, Bool.eq_iff_iff]
  rw [decide_eq_true_iff, List.mem_append, List.mem_singleton, Bool.or_eq_true, decide_eq_true_iff, beq_iff_eq, Option.getD_some]
  exact ⟨fun h => h.elim .inl (fun e => .inr e.symm), fun h => h.elim .inl (fun e => .inr e.symm)⟩

/-- The tags told from another one on, and one of them twice. -/
theorem all_turned (xs : List Int) {k : Nat} (hk : k < xs.length) : allL (xs.drop k ++ xs.take k ++ [nth xs k]) = allL xs := by
  refine up_ext (up_all _) (up_all _) fun z => ?_
  rw [mem_all, mem_all]
  have hx : xs = xs.take k ++ xs.drop k := (List.take_append_drop k xs).symm
  constructor
  · intro hz
    rw [List.mem_append, List.mem_append] at hz
    rcases hz with (h | h) | h
    · exact List.mem_of_mem_drop h
    · exact List.mem_of_mem_take h
    · rw [List.mem_singleton] at h; rw [h]; exact nth_mem hk
  · intro hz
    rw [hx, List.mem_append] at hz
    rw [List.mem_append, List.mem_append]
    rcases hz with h | h
    · exact .inl (.inr h)
    · exact .inl (.inl h)

theorem nrm_turned (xs : List Int) {k : Nat} (hk : k < xs.length) : nrm (xs.drop k ++ xs.take k ++ [nth xs k]) = nrm xs ∧ nrmE (xs.drop k ++ xs.take k ++ [nth xs k]) = nrmE xs := by
  rw [nrm, nrm, nrmE, nrmE, all_turned xs hk]; exact ⟨rfl, rfl⟩

/-- What the three appends have built. -/
theorem turned_end {B : Nat} {w : World} {v : Value} {xs : List Int} {k n1 : Nat} {t : Int} (hk : k < xs.length) (hn : n1 = xs.length + 1)
    (h : w.ownsRow B 28 1 v n1 (((xs.drop k).take (xs.length - k)).map (Value.int .u16) ++ (xs.take k).map (Value.int .u16) ++ [.int .u16 t])) :
    ∃ ao c, v = .slice ao (xs.length + 1) c ∧ Rd .u16 w ao (xs.length + 1) c (xs.drop k ++ xs.take k ++ [t]) := by
  have e : (xs.drop k).take (xs.length - k) = xs.drop k := List.take_of_length_le (by simp)
  have hl : (xs.drop k ++ xs.take k ++ [t]).length = xs.length + 1 := by simp; omega
  rw [e] at h
  subst hn
  have h2 : w.ownsRow B 28 1 v (xs.drop k ++ xs.take k ++ [t]).length ((xs.drop k ++ xs.take k ++ [t]).map (Value.int .u16)) := by
    rw [hl, List.map_append, List.map_append]; exact h
  obtain ⟨ao, c, hv, hr⟩ := Rd.of_owns h2
  rw [hl] at hv hr
  exact ⟨ao, c, hv, hr⟩

theorem not_there {v : Value} {a b c : Nat} (h : v.ownBlock = some a ∨ v.ownBlock = some b) (h1 : c ≠ a) (h2 : c ≠ b) : some c ≠ v.ownBlock := by
  rcases h with h | h <;> rw [h] <;> simpa using by assumption
theorem not_new {w : World} {base e size n : Nat} {v : Value} {xs : List Value} (h : w.ownsRow base e size v n xs) : some w.heap.size ≠ v.ownBlock := fun q => by
  have := (h.lt _ q.symm).2; omega

/-- An append to a row of the call's own, as one step of a region that draws its order; and where the new row lies. -/
theorem step_append_at {P : Program} {ops : Array Oper} {o : Oper} {a : Act} {w : World} {K : Act → World → Prop} {Q : Exit → Act → World → Prop} {E : Prop}
    (hg : o.guard = none) (s x : Operand) (t : TypeId) (hop : o.op = Op.call { callee := Callee.builtin Builtin.append, args := #[s, x], argTypes := #[t, t] })
    (e : TypeId) (i : TypeInfo) (z : Value) (size bytes : Nat) (ht : P.underlying t = some (.slice e)) (hi : P.info? e = some i) (hz : i.zero = some z)
    (hsize : i.size = size) (hby : i.bytes = bytes) (hzs : z.cells.size = size) (hsz : 0 < size) (Y : World) (hbel : Below Y.heap.size Y w)
    (v : Value) (n : Nat) (xs : List Value) (hs : a.eval s = v) (hown : w.ownsRow Y.heap.size e size v n xs)
    (ad : Addr) (m c : Nat) (news : List Value) (hx : a.eval x = .slice (some ad) m c) (hl : news.length = m * size) (hnews : ∀ j u, news[j]? = some u → w.cell? (ad.add j) = some u) (h1 : ∀ u ∈ news, u.oneCell' = true)
    (h63 : n + m ≤ maxLen) (hbytes : (n + m) * bytes ≤ 140737488355328)
    (hK : ∀ v' w', w'.ownsRow Y.heap.size e size v' (n + m) (xs ++ news) → Below Y.heap.size Y w' → (∀ b o u, w.cell? ⟨b, o, none⟩ = some u → some b ≠ v.ownBlock → w'.cell? ⟨b, o, none⟩ = some u) → (v'.ownBlock = v.ownBlock ∨ v'.ownBlock = some w.heap.size) → K (a.put o.dst v') w') :
    if Region.wanted o (yielded ops a.tmps) = true then Oper.wp P o a w K Q else E := by
  have hw : Region.wanted o (yielded ops a.tmps) = true := by simp [Region.wanted, hg]
  rw [if_pos hw]
  obtain ⟨v', w', hr, h2, h3, _, h4⟩ := run_append_own_at (P := P) w Y.heap.size t o.type e i z size bytes ht hi hz hsize hby hzs hsz v n xs hown ad m c news hl hnews h1 h63 hbytes hbel.size
  unfold Oper.wp
  simp [execOp, hop, resolve, invoke, builtin, hs, hx, hr, Result.andThen]
  refine hK v' w' h2 (below_grown hbel hbel.size hown (Nat.le_refl _) h3) (fun b o u hu hb => ?_) h4
  have hlt : b < w.heap.size := World.block_lt_of_cell? _ _ hu
  rw [← hu]
  exact World.cell?_of_block (h3.block b hlt hb)

set_option maxRecDepth 100000 in
set_option maxHeartbeats 4000000 in
theorem norms_any (ao : Option Addr) (n c m : Nat) (xs : List Int) (w : World) (h : Rd .u16 w ao n c xs) (hm : m ≤ 255) :
    Calls Try.prog 3 #[.slice ao n c, .int .u8 m] w fun e w' => e = .returned (.bool true) ∧ Below w.heap.size w w' := by
  obtain ⟨i0, hi, hz0, hz1, hz2⟩ := info_parts Try.info28
  have hlen := h.len
  subst hlen
  go_enter Try.func3, Try.ntmps3
  go_wp2_with fail
  refine Calls.mono (begun_any w) ?_
  rintro e w1 ⟨rfl, hb1⟩
  by_cases h20 : 0 < xs.length ∧ xs.length ≤ 20
  · obtain ⟨h0, h20⟩ := h20
    have g0 : ((xs.length : Int) == 0) = false := by rw [beq_eq_false_iff_ne]; omega
    have g1 : decide ((20 : Int) < (xs.length : Int)) = false := by simp; omega
    obtain ⟨b, o, rfl, hc⟩ := h.cells h0
    have hsz1 := hb1.size
    have hne : ((xs.length : Int)) ≠ 0 := by omega
    obtain ⟨k, HK⟩ : ∃ k : Nat, Hid (k = m % xs.length) := ⟨_, rfl⟩
    have hkn : k < xs.length := by rw [HK.out]; exact Nat.mod_lt _ h0
    have hrem : (m : Int).tmod (xs.length : Int) = (k : Int) := by rw [HK.out, Int.ofNat_tmod]
    go_upto_region 5 with fail
    go_cut [5] (fun v5 w' => v5 = .int .i64 (k : Int) ∧ w' = w1)
    case first =>
      go_wp2
      go_meet
      exact ⟨rfl, rfl⟩
    case rest =>
      obtain ⟨rfl, rfl⟩ := hcut
      obtain ⟨w2, rfl⟩ : ∃ w2 : World, w2 = wc := ⟨_, rfl⟩
      obtain ⟨ys, f, HY⟩ : ∃ ys f, Hid (ys = nrm xs ∧ f = nrmE xs) := ⟨_, _, rfl, rfl⟩
      have hxl := h.later hb1
      go_upto_region 6 with fail
      go_cut [6, 7] (fun v6 v7 w' => ∃ xo q, v6 = .slice xo ys.length q ∧ v7 = .int .i64 f ∧ Rd .u16 w' xo ys.length q ys ∧ Below w2.heap.size w2 w')
      case first =>
        go_wp2_with fail
        refine Calls.mono (norm_made _ xs.length c xs ys f HY w2 hxl (by omega)) ?_
        rintro e w3 ⟨xo, q, rfl, hr, -, hb3⟩
        go_wp2_with fail
        go_meet
        exact ⟨xo, q, rfl, rfl, hr, hb3⟩
      case rest =>
        obtain ⟨xo, q, rfl, rfl, hr, hb3⟩ := hcut
        obtain ⟨W, rfl⟩ : ∃ W : World, W = wc := ⟨_, rfl⟩
        have hB3 : Below w.heap.size w W := hb1.trans (hb3.mono hsz1)
        have hxl3 := hxl.later hb3
        clear hxl hb3 hb1 hne hrem g0 g1
        go_upto_region 7 with fail
        go_cut [8, 9] (fun v8 v9 w' => ∃ yo d, v8 = .slice yo ys.length d ∧ v9 = .int .i64 f ∧ Rd .u16 w' yo ys.length d ys ∧ Below W.heap.size W w')
        case first =>
          have hwl := hxl3.cap
          have hwm := hxl3.max
          have hwc : W.cell? ⟨b, o + k, none⟩ = some (.int .u16 (nth xs k)) := by
            obtain ⟨b', o', e, hc'⟩ := hxl3.cells h0
            injection e with e; injection e with e1 e2
            subst e1 e2
            exact hc' k hkn
          obtain ⟨t, ht⟩ : ∃ t, t = nth xs k := ⟨_, rfl⟩
          rw [← ht] at hwc
          replace ht : Hid (t = nth xs k) := ht
          have j1 : (k : Int) < (xs.length : Int) := by omega
          have j2 : (k : Int) ≤ (xs.length : Int) := by omega
          have j3 : (k : Int) ≤ (c : Int) := by omega
          have j4 : (xs.length : Int) ≤ (c : Int) := by omega
          have j5 : ¬ c = k := by omega
          have hP := hxl3.sub (lo := 0) (hi := k) (by omega) (by omega) (some ⟨b, o, none⟩) k c (by omega) (by omega) (fun _ => rfl) (Option.some_ne_none _)
          have hS := hxl3.sub (lo := k) (hi := xs.length) (by omega) (by omega) (some ⟨b, o + k, none⟩) (xs.length - k) (c - k) (by omega) (by omega) (fun _ => rfl) (Option.some_ne_none _)
          simp only [List.drop_zero] at hP
          have bA : ∀ oA, Below W.heap.size W (W.alloc oA) := fun oA => (Below.refl _ _).alloc (Nat.le_refl _) oA
          have bAA : ∀ oA oC, Below W.heap.size W ((W.alloc oA).alloc oC) := fun oA oC => (bA oA).alloc (by simp) oC
          have pA : (W.alloc (.cells #[] 28)).ownsRow W.heap.size 28 1 (.slice (some ⟨W.heap.size, 0, none⟩) 0 0) 0 [] := World.ownsRow_made W #[] 0 (Nat.le_refl _) (Nat.zero_le _) rfl
          have pAC := fun oC => pA.alloc oC
          have pCA : ∀ oC, ((W.alloc oC).alloc (.cells #[] 28)).ownsRow W.heap.size 28 1 (.slice (some ⟨W.heap.size + 1, 0, none⟩) 0 0) 0 [] := fun oC => by
            have := World.ownsRow_made (base := W.heap.size) (e := 28) (size := 1) (W.alloc oC) #[] 0 (by simp) (Nat.zero_le _) rfl
            simpa using this
          have ne1 : some (W.heap.size + 1) ≠ some W.heap.size := by simp
          have ne2 : some W.heap.size ≠ some (W.heap.size + 1) := by simp
          have cCA : ((W.alloc (.cells #[.int .u16 t] 28)).alloc (.cells #[] 28)).cell? ⟨W.heap.size, 0, none⟩ = some (.int .u16 t) := by simp [go_sem]
          have cAC : ((W.alloc (.cells #[] 28)).alloc (.cells #[.int .u16 t] 28)).cell? ⟨W.heap.size + 1, 0, none⟩ = some (.int .u16 t) := by simp [go_sem]
          have HY3 : Hid (ys = nrm (xs.drop k ++ xs.take k ++ [t]) ∧ f = nrmE (xs.drop k ++ xs.take k ++ [t])) := by
            rw [ht.out, Hid, (nrm_turned xs hkn).1, (nrm_turned xs hkn).2]; exact HY.out
          go_region_held3 (fun w' => w'.cell? ⟨b, o + k, none⟩ = some (.int .u16 t)) (first | go_keep | exact cell_later hbel1 hwc | exact cell_later hbel2 hwc | exact cell_later hbel3 hwc | exact cell_later hbel4 hwc)
            ((first
              | (refine step_guard (.tmp 35) (.tmp 38) 22 ?_ ?_; (exact rfl); refine step_append_at (by rfl) (.tmp 35) (.tmp 38) 22 (by rfl) 28 i0 (.int .u16 0) 1 2 Try.underlying22 hi hz0 hz1 hz2 rfl (by decide) W (by first | exact (bA _).drew | exact (bAA _ _).drew) _ 0 [] (by rfl) (by first | exact pA | exact pAC _ | exact pCA _) ⟨b, o + k, none⟩ (xs.length - k) (c - k) (((xs.drop k).take (xs.length - k)).map (Value.int .u16)) (by rfl) (by rw [List.length_map, List.length_take, List.length_drop]; omega) (by first | exact (hS.later (bA _).drew).news | exact (hS.later (bAA _ _).drew).news) (ints_one _ _) (by unfold maxLen; omega) (by omega) ?_; intro v1 w1 hown1 hbel1 hkeep1 hat1)
              | (refine step_guard (.tmp 39) (.tmp 42) 22 ?_ ?_; (exact rfl); refine step_append_at (by rfl) (.tmp 39) (.tmp 42) 22 (by rfl) 28 i0 (.int .u16 0) 1 2 Try.underlying22 hi hz0 hz1 hz2 rfl (by decide) W (by first | exact hbel1 | exact hbel1.alloc hbel1.size _) _ _ _ (by rfl) (by first | exact hown1 | exact hown1.alloc _) ⟨b, o, none⟩ k c ((xs.take k).map (Value.int .u16)) (by rfl) (by rw [List.length_map, List.length_take]; omega) (by first | exact (hP.later hbel1).news | exact (hP.later (hbel1.alloc hbel1.size _)).news) (ints_one _ _) (by unfold maxLen; omega) (by omega) ?_; intro v2 w2 hown2 hbel2 hkeep2 hat2)
              | (refine step_guard (.tmp 43) (.tmp 48) 22 ?_ ?_; (exact rfl); refine step_append_at (by rfl) (.tmp 43) (.tmp 48) 22 (by rfl) 28 i0 (.int .u16 0) 1 2 Try.underlying22 hi hz0 hz1 hz2 rfl (by decide) W (by first | exact hbel2 | exact hbel2.alloc hbel2.size _) _ _ _ (by rfl) (by first | exact hown2 | exact hown2.alloc _) _ 1 1 [.int .u16 t] (by rfl) (by rfl) (by first | exact one_new0 _ _ _ | exact one_of (hkeep2 _ _ _ (hkeep1 _ _ _ cCA ne2) (not_there hat1 (by simp) (by simp <;> omega))) | exact one_of (hkeep2 _ _ _ (hkeep1 _ _ _ cAC ne1) (not_there hat1 (by simp) (by simp <;> omega))) | exact one_of (hkeep2 _ _ _ (by simp [go_sem]) (not_new hown1))) (ints_one .u16 [t]) (by unfold maxLen; omega) (by omega) ?_; intro v3 w3 hown3 hbel3 hkeep3 hat3; obtain ⟨ao3, c3, rfl, hr3⟩ := turned_end hkn (by omega) hown3)
              | (go_at_call 5; refine Calls.mono (norm_made ao3 (xs.length + 1) c3 _ ys f HY3 w3 hr3 (by omega)) ?_; rintro e w4 ⟨yo, d, rfl, hy, -, hb4⟩; have hbel4 : Below W.heap.size W w4 := hbel3.trans (hb4.mono hbel3.size))))
          all_goals
            go_wp2
            go_meet
            exact ⟨yo, d, rfl, rfl, hy, hbel4⟩
        case rest =>
          obtain ⟨yo, d, rfl, rfl, hy, hb4⟩ := hcut
          obtain ⟨w4, rfl⟩ : ∃ w4 : World, w4 = wc := ⟨_, rfl⟩
          have hB4 : Below w.heap.size w w4 := hB3.trans (hb4.mono hB3.size)
          have hr4 := hr.later hb4
          have hxl4 := hxl3.later hb4
          clear hr hxl3 hb4 hB3 hc h
          have HSame : Hid (Calls Try.prog 6 #[.slice xo ys.length q, .slice yo ys.length d] w4 fun e w'' => e = .returned (.bool true) ∧ Below w4.heap.size w4 w'') := by
            have e := same_any xo yo ys.length q ys.length d ys ys w4 hr4 hy
            rw [sameB_self] at e; exact e
          go_wp2_with fail
          refine Calls.mono HSame.out ?_
          rintro e w5 ⟨rfl, hb5⟩
          have hB5 : Below w.heap.size w w5 := hB4.trans (hb5.mono hB4.size)
          have hr5 := hr4.later hb5
          have hxl5 := hxl4.later hb5
          clear hr4 hxl4 hb5 hB4 hy HSame
          by_cases hf : (allL xs).length ≤ 8
          · have ef : f = 0 := by rw [HY.out.2, nrmE, if_pos hf]
            have ey : ys = allL xs := by rw [HY.out.1, nrm, if_pos hf]
            clear HY
            subst ef
            have hup : Up ys := by rw [ey]; exact up_all xs
            have hy8 : ys.length ≤ 8 := by rw [ey]; exact hf
            have hmemt : nth xs k ∈ ys := by rw [ey, mem_all]; exact nth_mem hkn
            have hlen : ys.length ≤ xs.length := by rw [ey]; have := allTo_len xs xs.length; rwa [allTo, List.take_of_length_le (Nat.le_refl _)] at this
            clear ey hf
            have HY2 : Hid (ys = nrm ys ∧ (0 : Int) = nrmE ys) := by
              rw [Hid, nrm, nrmE, all_of_up hup, if_pos hy8, if_pos hy8]; exact ⟨rfl, rfl⟩
            go_upto_region 12 with fail
            go_cut [10, 11] (fun v10 v11 w' => ∃ zo e, v10 = .slice zo ys.length e ∧ v11 = .int .i64 0 ∧ Rd .u16 w' zo ys.length e ys ∧ Below w5.heap.size w5 w')
            case first =>
              go_wp2_with fail
              refine Calls.mono (norm_made xo ys.length q ys ys 0 HY2 w5 hr5 (by omega)) ?_
              rintro e w6 ⟨zo, e, rfl, hz, -, hb6⟩
              go_wp2_with fail
              go_meet
              exact ⟨zo, e, rfl, rfl, hz, hb6⟩
            case rest =>
              obtain ⟨zo, e, rfl, rfl, hz, hb6⟩ := hcut
              obtain ⟨w6, rfl⟩ : ∃ w6 : World, w6 = wc := ⟨_, rfl⟩
              have hB6 : Below w.heap.size w w6 := hB5.trans (hb6.mono hB5.size)
              have hr6 := hr5.later hb6
              have hxl6 := hxl5.later hb6
              clear hr5 hxl5 hb6 hB5 HY2
              obtain ⟨t, ht⟩ : ∃ t, t = nth xs k := ⟨_, rfl⟩
              rw [← ht] at hmemt
              have hwc : w6.cell? ⟨b, o + k, none⟩ = some (.int .u16 t) := by
                obtain ⟨b', o', e, hc'⟩ := hxl6.cells h0
                injection e with e; injection e with e1 e2
                subst e1 e2
                rw [ht]
                exact hc' k hkn
              replace hmemt : Hid (t ∈ ys) := hmemt
              obtain ⟨b2, o2, rfl, hc2⟩ := hr6.cells (List.length_pos_of_mem hmemt.out)
              have hq := hr6.cap
              have hqm := hr6.max
              have j1 : (k : Int) < (xs.length : Int) := by omega
              have hlast : ∀ wr, Below w6.heap.size w6 wr → Hid (Calls Try.prog 6 #[.slice (some ⟨b2, o2, none⟩) ys.length q, .slice zo ys.length e] wr fun e w'' => e = .returned (.bool true) ∧ Below wr.heap.size wr w'') := fun wr hb => by
                have e := same_any _ zo ys.length q ys.length e ys ys wr (hr6.later hb) (hz.later hb)
                rw [sameB_self] at e; exact e
              have hmay : ∀ wr, Below w6.heap.size w6 wr → Hid (Calls Try.prog 7 #[.slice (some ⟨b2, o2, none⟩) ys.length q] wr fun e w'' => e = .returned (.bool true) ∧ Below wr.heap.size wr w'') := fun wr hb => by
                have e := may_any _ ys.length q ys wr (hr6.later hb)
                rw [rises_of_up hup, show decide (ys.length ≤ 8) = true from decide_eq_true hy8] at e; exact e
              have HL : Hid (∀ wr, Below w6.heap.size w6 wr → Hid (Calls Try.prog 6 #[.slice (some ⟨b2, o2, none⟩) ys.length q, .slice zo ys.length e] wr fun e w'' => e = .returned (.bool true) ∧ Below wr.heap.size wr w'')) := hlast
              have HM : Hid (∀ wr, Below w6.heap.size w6 wr → Hid (Calls Try.prog 7 #[.slice (some ⟨b2, o2, none⟩) ys.length q] wr fun e w'' => e = .returned (.bool true) ∧ Below wr.heap.size wr w'')) := hmay
              clear hlast hmay hz hxl6 hr6 hup ht
              go_wp2
              go_loopw [12, 13] (fun inv i wr => ∃ j : Nat, ∃ bb : Bool, j ≤ ys.length ∧ inv = .bool bb ∧ i = .int .i64 j ∧ Below w6.heap.size w6 wr ∧ Hid (bb = inB (ys.take j) t)) (fun _ i _ => ys.length - (intOf i).toNat)
              case atStart => exact ⟨0, false, Nat.zero_le _, rfl, rfl, Below.refl _ _, by simp [Hid, inB]⟩
              case round =>
                obtain ⟨j, bb, hj, rfl, rfl, hb, HI⟩ := hrel
                by_cases hlt : j < ys.length
                · have hcj := cell_later hb (hc2 j hlt)
                  have hck := cell_later hb hwc
                  have j2 : (j : Int) < (ys.length : Int) := by omega
                  obtain ⟨u, hu⟩ : ∃ u, u = nth ys j := ⟨_, rfl⟩
                  rw [← hu] at hcj
                  have HE : Hid (inB (ys.take (j + 1)) t = (bb || (u == t))) := by
                    rw [Hid, HI.out, inB_snoc hlt, hu]
                  clear hu HI
                  cases bb
                  · by_cases hut : u = t
                    · have g1 : (u == t) = true := by rw [beq_iff_eq]; exact hut
                      have HE2 : Hid (true = inB (ys.take (j + 1)) t) := by rw [Hid, HE.out, g1]; rfl
                      clear HE hut
                      go_wp2
                      go_quiet (fail)
                      go_wp2
                      go_roundw
                      case rel => exact ⟨j + 1, _, by omega, rfl, by go_num, below_drewN hb _, HE2⟩
                      case measure => simp only [intOf]; omega
                    · have g1 : (u == t) = false := by rw [beq_eq_false_iff_ne]; exact hut
                      have HE2 : Hid (false = inB (ys.take (j + 1)) t) := by rw [Hid, HE.out, g1]; rfl
                      clear HE
                      go_wp2
                      go_quiet (fail)
                      go_wp2
                      go_roundw
                      case rel => exact ⟨j + 1, _, by omega, rfl, by go_num, below_drewN hb _, HE2⟩
                      case measure => simp only [intOf]; omega
                  · have HE2 : Hid (true = inB (ys.take (j + 1)) t) := by rw [Hid, HE.out]; rfl
                    clear HE
                    go_wp2
                    go_quiet (fail)
                    go_wp2
                    go_roundw
                    case rel => exact ⟨j + 1, _, by omega, rfl, by go_num, below_drewN hb _, HE2⟩
                    case measure => simp only [intOf]; omega
                · obtain rfl : bb = true := by
                    rw [HI.out, List.take_of_length_le (by omega)]
                    simpa [inB] using hmemt.out
                  have g2 : decide ((ys.length : Int) ≤ (xs.length : Int)) = true := by simp; omega
                  clear HI
                  have H1 := HL.out wr hb
                  go_wp2_with fail
                  refine Calls.mono H1.out ?_
                  rintro e7 w7 ⟨rfl, hb7⟩
                  have hB7 := hb.trans (hb7.mono hb.size)
                  go_wp2_with fail
                  refine Calls.mono (HM.out w7 hB7).out ?_
                  rintro e8 w8 ⟨rfl, hb8⟩
                  have hB8 := hB7.trans (hb8.mono hB7.size)
                  go_wp2
                  go_ret
                  exact ⟨rfl, hB6.trans (hB8.mono hB6.size)⟩
          · have ef : f = 7 := by rw [HY.out.2, nrmE, if_neg hf]
            have ey : ys = [] := by rw [HY.out.1, nrm, if_neg hf]
            clear HY
            subst ef ey
            go_wp2
            go_ret
            exact ⟨rfl, hB5⟩
  · by_cases h0 : xs.length = 0
    · have g0 : ((xs.length : Int) == 0) = true := by rw [beq_iff_eq]; omega
      go_wp2
      go_ret
      exact ⟨rfl, hb1⟩
    · have g0 : ((xs.length : Int) == 0) = false := by rw [beq_eq_false_iff_ne]; omega
      have g1 : decide ((20 : Int) < (xs.length : Int)) = true := by simp; omega
      go_wp2
      go_ret
      exact ⟨rfl, hb1⟩

theorem norms_walk (ao : Option Addr) (n c : Nat) (t : Int) (xs : List Int) (w : World) (h : Rd .u16 w ao n c xs) (ht : 0 ≤ t ∧ t ≤ 255) :
    Calls Try.prog 3 #[.slice ao n c, .int .u8 t] w fun e w' => e = .returned (.bool true) ∧ Below w.heap.size w w' := by
  obtain ⟨m, rfl⟩ : ∃ m : Nat, t = (m : Int) := ⟨t.toNat, by omega⟩
  exact norms_any ao n c m xs w h (by omega)

end Go.Proofs.Ytgmodalpmicmnab
