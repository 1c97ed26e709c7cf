/- The walk of 'quarantineref1.all': tags, rising, each once. -/
import Derived.Test.YtghifjiohgninaaRef
import Derived.Test.YtghifjiohgninaaTake
import Derived.Deep.RegionHeld3
namespace Go.Proofs.Ytghifjiohgninaa
open Go.RowKit
set_option linter.unusedVariables false

/-- A tag among rising ones, if it is not there. -/
def insU (t : Int) : List Int → List Int
  | [] => [t]
  | y :: r => if y < t then y :: insU t r else if y = t then y :: r else t :: y :: r

def allL (l : List Int) : List Int := l.foldl (fun out t => insU t out) []

theorem insU_at : ∀ {out : List Int} {t : Int} {k : Nat}, k ≤ out.length → (∀ j, j < k → nth out j < t) → (k < out.length → t < nth out k) → insU t out = out.take k ++ t :: out.drop k := by
  intro out
  induction out with
  | nil => intro t k hk _ _; simp at hk; subst hk; rfl
  | cons y r ih =>
    intro t k hk h1 h2
    cases k with
    | zero =>
      have := h2 (by simp)
      rw [nth_zero] at this
      rw [insU, if_neg (by omega), if_neg (by omega)]; rfl
    | succ k =>
      have := h1 0 (by omega)
      rw [nth_zero] at this
      rw [insU, if_pos this, ih (by simpa using hk) (fun j hj => by have := h1 (j + 1) (by omega); rwa [nth_succ] at this) (fun hk' => by have := h2 (by simpa using hk'); rwa [nth_succ] at this)]
      rfl

theorem insU_there : ∀ {out : List Int} {t : Int} {k : Nat}, k < out.length → (∀ j, j < k → nth out j < t) → nth out k = t → insU t out = out := by
  intro out
  induction out with
  | nil => intro t k hk; simp at hk
  | cons y r ih =>
    intro t k hk h1 h2
    cases k with
    | zero => rw [nth_zero] at h2; subst h2; rw [insU, if_neg (by omega), if_pos rfl]
    | succ k =>
      have := h1 0 (by omega)
      rw [nth_zero] at this
      rw [nth_succ] at h2
      rw [insU, if_pos this, ih (by simpa using hk) (fun j hj => by have := h1 (j + 1) (by omega); rwa [nth_succ] at this) h2]

theorem insU_len (t : Int) (out : List Int) : (insU t out).length ≤ out.length + 1 := by
  induction out with
  | nil => simp [insU]
  | cons y r ih =>
    rw [insU]
    split
    · simp; omega
    · split <;> simp

/-- The first i tags put in. -/
def allTo (l : List Int) (i : Nat) : List Int := allL (l.take i)

theorem allTo_succ {l : List Int} {i : Nat} (h : i < l.length) : allTo l (i + 1) = insU (nth l i) (allTo l i) := by
  rw [allTo, allTo, allL, allL, List.take_succ_eq_append_getElem h, List.foldl_append, nth, List.getElem?_eq_getElem h]; rfl

theorem allTo_len (l : List Int) (i : Nat) : (allTo l i).length ≤ i := by
  induction i with
  | zero => simp [allTo, allL]
  | succ i ih =>
    by_cases h : i < l.length
    · rw [allTo_succ h]; have := insU_len (nth l i) (allTo l i); omega
    · rw [allTo, List.take_of_length_le (by omega)]
      rw [allTo, List.take_of_length_le (by omega)] at ih
      omega

theorem Rd.drewN {k : IntKind} {w : World} {ao : Option Addr} {n c : Nat} {xs : List Int} (h : Rd k w ao n c xs) (m : Nat) : Rd k (w.drewN m) ao n c xs := ⟨h.len, h.cap, h.max, h.non, h.cells⟩

/-- An append to a row of the call's own, as one step of a region that draws its order; what lay there before Y's end is as it was, and so is every other block's cell. -/
theorem step_append_below {P : Program} {ops : Array Oper} {o : Oper} {a : Act} {w : World} {K : Act → World → Prop} {Q : Exit → Act → World → Prop} {E : Prop}
    (hg : o.guard = none) (s x : Operand) (t : TypeId) (hop : o.op = Op.call { callee := Callee.builtin Builtin.append, args := #[s, x], argTypes := #[t, t] })
    (e : TypeId) (i : TypeInfo) (z : Value) (size bytes : Nat) (ht : P.underlying t = some (.slice e)) (hi : P.info? e = some i) (hz : i.zero = some z)
    (hsize : i.size = size) (hby : i.bytes = bytes) (hzs : z.cells.size = size) (hsz : 0 < size) (Y : World) (hbel : Below Y.heap.size Y w)
    (v : Value) (n : Nat) (xs : List Value) (hs : a.eval s = v) (hown : w.ownsRow Y.heap.size e size v n xs)
    (ad : Addr) (m c : Nat) (news : List Value) (hx : a.eval x = .slice (some ad) m c) (hl : news.length = m * size) (hnews : ∀ j u, news[j]? = some u → w.cell? (ad.add j) = some u) (h1 : ∀ u ∈ news, u.oneCell' = true)
    (h63 : n + m ≤ maxLen) (hbytes : (n + m) * bytes ≤ 140737488355328)
    (hK : ∀ v' w', w'.ownsRow Y.heap.size e size v' (n + m) (xs ++ news) → Below Y.heap.size Y w' → (∀ b o u, w.cell? ⟨b, o, none⟩ = some u → some b ≠ v.ownBlock → w'.cell? ⟨b, o, none⟩ = some u) → K (a.put o.dst v') w') :
    if Region.wanted o (yielded ops a.tmps) = true then Oper.wp P o a w K Q else E := by
  refine step_append_own hg s x t hop Y.heap.size e i z size bytes ht hi hz hsize hby hzs hsz v n xs hs hown ad m c news hx hl hnews h1 h63 hbytes hbel.size fun v' w' h2 h3 => ?_
  refine hK v' w' h2 (below_grown hbel hbel.size hown (Nat.le_refl _) h3) fun b o u hu hb => ?_
  have hlt : b < w.heap.size := World.block_lt_of_cell? _ _ hu
  rw [← hu]
  exact World.cell?_of_block (h3.block b hlt hb)

theorem step_append_none {P : Program} {ops : Array Oper} {o : Oper} {a : Act} {w : World} {K : Act → World → Prop} {Q : Exit → Act → World → Prop} {E : Prop}
    (hg : o.guard = none) (s x : Operand) (t : TypeId) (hop : o.op = Op.call { callee := Callee.builtin Builtin.append, args := #[s, x], argTypes := #[t, t] })
    (base : Nat) (e : TypeId) (i : TypeInfo) (size : Nat) (ht : P.underlying t = some (.slice e)) (hi : P.info? e = some i)
    (v : Value) (n : Nat) (xs : List Value) (hs : a.eval s = v) (hown : w.ownsRow base e size v n xs) (hx : a.eval x = .slice none 0 0) (hK : K (a.put o.dst v) w) :
    if Region.wanted o (yielded ops a.tmps) = true then Oper.wp P o a w K Q else E := by
  have hw : Region.wanted o (yielded ops a.tmps) = true := by simp [Region.wanted, hg]
  rw [if_pos hw]
  have hrun := run_append_owned_none (P := P) (w := w) base t o.type e i size ht hi v n xs hown
  unfold Oper.wp
  simp [execOp, hop, resolve, invoke, builtin, hs, hx, hrun, Result.andThen]
  exact hK

theorem owns_base {w : World} {base base' e size : Nat} {v : Value} {n : Nat} {xs : List Value} (h : w.ownsRow base e size v n xs) (hb : base' ≤ base) : w.ownsRow base' e size v n xs := by
  refine ⟨h.1, ?_⟩
  rcases h.2 with k | ⟨g, cap, cur, hv, hg, r⟩
  · exact .inl k
  · exact .inr ⟨g, cap, cur, hv, by omega, r⟩

/-- What the three appends have built is the tag among the others. -/
theorem all_end {w W w3 : World} {v : Value} {pre suf : List Int} {t : Int} {m : Nat} (hW : w.heap.size ≤ W.heap.size) (hm : m = (pre ++ t :: suf).length)
    (h : w3.ownsRow W.heap.size 33 1 v m (pre.map (Value.int .u16) ++ [.int .u16 t] ++ suf.map (Value.int .u16))) :
    w3.ownsRow w.heap.size 33 1 v (pre ++ t :: suf).length ((pre ++ t :: suf).map (Value.int .u16)) := by
  subst hm
  have := owns_base h hW
  simpa using this

/-- Is the operation this append? -/
theorem step_guard {P : Program} {Y : Nat → Option Bool} {o : Oper} {a : Act} {w : World} {K : Act → World → Prop} {Q : Exit → Act → World → Prop} {E : Prop} (s x : Operand) (t : TypeId)
    (h : o.op = Op.call { callee := Callee.builtin Builtin.append, args := #[s, x], argTypes := #[t, t] }) (g : if Region.wanted o Y = true then Oper.wp P o a w K Q else E) : if Region.wanted o Y = true then Oper.wp P o a w K Q else E := g

theorem one_of {w : World} {g : Nat} {x : Value} (h : w.cell? ⟨g, 0, none⟩ = some x) : ∀ (j : Nat) (u : Value), [x][j]? = some u → w.cell? ((⟨g, 0, none⟩ : Addr).add j) = some u := by
  intro j u hj
  match j, hj with
  | 0, hj =>
    simp at hj
    subst hj
    simpa [Addr.add] using h

set_option maxHeartbeats 2000000 in
theorem all_any (ao : Option Addr) (n c : Nat) (l : List Int) (w : World) (h : Rd .u16 w ao n c l) (hn : n ≤ 1000) :
    Calls Try.prog 23 #[.slice ao n c] w fun e w' => ∃ oo p q, e = .returned (.slice oo p q) ∧ Rd .u16 w' oo p q (allL l) ∧ Below w.heap.size w w' := by
  obtain ⟨i0, hi, hz0, hz1, hz2⟩ := info_parts Try.info33
  have hlen := h.len
  have hcap := h.cap
  have hmax := h.max
  go_enter Try.func23, Try.ntmps23
  go_wp2
  go_loopw [3, 4] (fun v i wr => ∃ k : Nat, ∃ out : List Int, k ≤ n ∧ i = .int .i64 k ∧ out.length ≤ k ∧ wr.ownsRow w.heap.size 33 1 v out.length (out.map (Value.int .u16)) ∧ Below w.heap.size w wr ∧ Hid (out = allTo l k)) (fun _ i _ => n - (intOf i).toNat)
  case atStart => exact ⟨0, [], by omega, rfl, by simp, World.ownsRow_nil _ _ _ _, Below.refl _ _, rfl⟩
  case round =>
    obtain ⟨i, out, hk, rfl, hol, hown, hB, HE⟩ := hrel
    have hsz := hB.size
    by_cases hlt : i < n
    · obtain ⟨b, o, rfl, hc⟩ := h.cells (by omega)
      have hci := cell_later hB (hc i hlt)
      obtain ⟨t, ht⟩ : ∃ t, t = nth l i := ⟨_, rfl⟩
      rw [← ht] at hci
      have HS : Hid (allTo l (i + 1) = insU t out) := by rw [Hid, allTo_succ (by omega), ← ht, HE.out]
      clear hc ht
      obtain ⟨vo, vc, hv, hR⟩ := Rd.of_owns hown
      subst hv
      obtain ⟨wo, hwo⟩ : ∃ wo : World, wo = wr := ⟨_, rfl⟩
      subst hwo
      have hol2 : (out.length : Int) ≤ 1000 := by omega
      go_wp2
      go_loopw [5] (fun kv wr => ∃ k q : Nat, k ≤ out.length ∧ kv = .int .i64 k ∧ wr = wo.drewN q ∧ Hid (∀ j, j < k → nth out j < t)) (fun kv _ => out.length - (intOf kv).toNat)
      case atStart => exact ⟨0, 0, by omega, rfl, rfl, fun j hj => by omega⟩
      case round =>
        obtain ⟨k, q, hko, rfl, rfl, HK⟩ := hrel
        by_cases hkl : k < out.length
        · obtain ⟨g, go, rfl, hcg⟩ := hR.cells (by omega)
          have hck := hcg k hkl
          have i1 : decide ((k : Int) < (out.length : Int)) = true := by simp; omega
          have i2 : ((k : Int) == (out.length : Int)) = false := by rw [beq_eq_false_iff_ne]; omega
          rcases (by omega : nth out k < t ∨ nth out k = t ∨ t < nth out k) with hc | hc | hc
          · go_wp2
            go_quiet (fail)
            go_wp2
            go_roundw
            case rel => exact ⟨k + 1, _, by omega, by go_num, rfl, fun j hj => by
              rcases (by omega : j < k ∨ j = k) with e | e
              · exact HK.out j e
              · rw [e]; exact hc⟩
            case measure => simp only [intOf]; omega
          · have hne : (nth out k != t) = false := by rw [hc]; simp
            have HD : Hid (allTo l (i + 1) = out) := by rw [Hid, HS.out, insU_there hkl HK.out hc]
            have hnl : ¬ nth out k < t := by omega
            clear hc
            go_wp2
            go_quiet (fail)
            go_wp2
            go_quiet (fail)
            go_wp2
            go_roundw
            case rel => exact ⟨i + 1, out, by omega, by go_num, by omega, owns_drewN hown _, below_drewN hB _, HD.out.symm⟩
            case measure => simp only [intOf]; omega
          · go_wp2
            go_quiet (fail)
            go_wp2
            generalize hW1 : (wo.drewN q).drewN nq = W1
            have hck1 : W1.cell? ⟨g, go + k, none⟩ = some (.int .u16 (nth out k)) := by rw [← hW1]; exact hck
            have hci1 : W1.cell? ⟨b, o + i, none⟩ = some (.int .u16 t) := by rw [← hW1]; exact hci
            have hown1 : W1.ownsRow w.heap.size 33 1 (.slice (some ⟨g, go, none⟩) out.length vc) out.length (out.map (Value.int .u16)) := by rw [← hW1]; exact hown
            have hB1 : Below w.heap.size w W1 := by rw [← hW1]; exact below_drewN (below_drewN hB _) _
            have hR1 : Rd .u16 W1 (some ⟨g, go, none⟩) out.length vc out := by rw [← hW1]; exact (hR.drewN _).drewN _
            clear hW1 hck hci hown hB hR hcg
            go_quiet (fail)
            go_wp2
            generalize hW2 : W1.drewN nq = W
            have hci2 : W.cell? ⟨b, o + i, none⟩ = some (.int .u16 t) := by rw [← hW2]; exact hci1
            have hB2 : Below w.heap.size w W := by rw [← hW2]; exact below_drewN hB1 _
            have hR2 : Rd .u16 W (some ⟨g, go, none⟩) out.length vc out := by rw [← hW2]; exact hR1.drewN _
            clear hW2 hck1 hci1 hown1 hB1 hR1
            have j1 : (i : Int) < (n : Int) := by omega
            have hoc := hR2.cap
            have hom := hR2.max
            have j2 : (k : Int) ≤ (out.length : Int) := by omega
            have j3 : (k : Int) ≤ (vc : Int) := by omega
            have j4 : (out.length : Int) ≤ (vc : Int) := by omega
            have j5 : ¬ vc = k := by omega
            have hP := hR2.sub (lo := 0) (hi := k) (by omega) (by omega) (some ⟨g, go, none⟩) k vc (by omega) (by omega) (fun _ => rfl) (Option.some_ne_none _)
            have hS := hR2.sub (lo := k) (hi := out.length) (by omega) (by omega) (some ⟨g, go + k, none⟩) (out.length - k) (vc - k) (by omega) (by omega) (fun _ => rfl) (Option.some_ne_none _)
            have HD : Hid (allTo l (i + 1) = out.take k ++ t :: (out.drop k).take (out.length - k)) := by
              have e : (out.drop k).take (out.length - k) = out.drop k := List.take_of_length_le (by simp)
              rw [Hid, HS.out, insU_at hko HK.out (fun _ => hc), e]
            simp only [List.drop_zero] at hP
            have bA : ∀ oA, Below W.heap.size W (W.alloc oA) := fun oA => (Below.refl _ _).alloc (Nat.le_refl _) oA
            have bAA : ∀ oA oC, Below W.heap.size W ((W.alloc oA).alloc oC) := fun oA oC => (bA oA).alloc (by simp) oC
            have pA : (W.alloc (.cells #[] 33)).ownsRow W.heap.size 33 1 (.slice (some ⟨W.heap.size, 0, none⟩) 0 0) 0 [] := World.ownsRow_made W #[] 0 (Nat.le_refl _) (Nat.zero_le _) rfl
            have pAC := fun oC => pA.alloc oC
            have pCA : ∀ oC, ((W.alloc oC).alloc (.cells #[] 33)).ownsRow W.heap.size 33 1 (.slice (some ⟨W.heap.size + 1, 0, none⟩) 0 0) 0 [] := fun oC => by
              have := World.ownsRow_made (base := W.heap.size) (e := 33) (size := 1) (W.alloc oC) #[] 0 (by simp) (Nat.zero_le _) rfl
              simpa using this
            have ne1 : some (W.heap.size + 1) ≠ some W.heap.size := by simp
            have ne2 : some W.heap.size ≠ some (W.heap.size + 1) := by simp
            have cCA : ((W.alloc (.cells #[.int .u16 t] 33)).alloc (.cells #[] 33)).cell? ⟨W.heap.size, 0, none⟩ = some (.int .u16 t) := by simp [go_sem]
            have cAC : ((W.alloc (.cells #[] 33)).alloc (.cells #[.int .u16 t] 33)).cell? ⟨W.heap.size + 1, 0, none⟩ = some (.int .u16 t) := by simp [go_sem]
            have hWs : w.heap.size ≤ W.heap.size := hB2.size
            go_region_held3 (fun w' => w'.cell? ⟨b, o + i, none⟩ = some (.int .u16 t)) (first | go_keep | exact cell_later hbel1 hci2 | exact cell_later hbel2 hci2 | exact cell_later hbel3 hci2)
              ((first
                | (refine step_guard (.tmp 44) (.tmp 47) 23 ?_ ?_; (exact rfl); refine step_append_below (by rfl) (.tmp 44) (.tmp 47) 23 (by rfl) 33 i0 (.int .u16 0) 1 2 Try.underlying23 hi hz0 hz1 hz2 rfl (by decide) W (by first | exact (bA _).drew | exact (bAA _ _).drew) _ 0 [] (by rfl) (by first | exact pA | exact pAC _ | exact pCA _) ⟨g, go, none⟩ k vc ((out.take k).map (Value.int .u16)) (by rfl) (by rw [List.length_map, List.length_take]; omega) (by first | exact (hP.later (bA _).drew).news | exact (hP.later (bAA _ _).drew).news) (ints_one _ _) (by unfold maxLen; omega) (by omega) ?_; intro v1 w1 hown1 hbel1 hkeep1)
                | (refine step_guard (.tmp 48) (.tmp 53) 23 ?_ ?_; (exact rfl); refine step_append_below (by rfl) (.tmp 48) (.tmp 53) 23 (by rfl) 33 i0 (.int .u16 0) 1 2 Try.underlying23 hi hz0 hz1 hz2 rfl (by decide) W (by first | exact hbel1 | exact hbel1.alloc hbel1.size _) _ _ _ (by rfl) (by first | exact hown1 | exact hown1.alloc _) _ 1 1 [.int .u16 t] (by rfl) (by rfl) (by first | exact one_new0 _ _ _ | exact one_of (hkeep1 _ _ _ cCA ne2) | exact one_of (hkeep1 _ _ _ cAC ne1)) (ints_one .u16 [t]) (by unfold maxLen; omega) (by omega) ?_; intro v2 w2 hown2 hbel2 hkeep2)
                | (refine step_guard (.tmp 54) (.tmp 57) 23 ?_ ?_; (exact rfl); refine step_append_below (by rfl) (.tmp 54) (.tmp 57) 23 (by rfl) 33 i0 (.int .u16 0) 1 2 Try.underlying23 hi hz0 hz1 hz2 rfl (by decide) W hbel2 _ _ _ (by rfl) hown2 ⟨g, go + k, none⟩ (out.length - k) (vc - k) (((out.drop k).take ((out.length - k))).map (Value.int .u16)) (by rfl) (by rw [List.length_map, List.length_take, List.length_drop]; omega) (hS.later hbel2).news (ints_one _ _) (by unfold maxLen; omega) (by omega) ?_; intro v3 w3 hown3 hbel3 hkeep3)))
            all_goals
              have hB3 : Below w.heap.size w w3 := hB2.trans (hbel3.mono hWs)
              have hF := all_end hWs (by simp; omega) hown3
              clear hown1 hown2 hown3 hbel1 hbel2 hbel3 hkeep1 hkeep2 hkeep3
              go_wp2
              go_roundw
              case rel => exact ⟨i + 1, _, by omega, by go_num, by simp; omega, hF, hB3, HD.out.symm⟩
              case measure => simp only [intOf]; omega
        · obtain rfl : k = out.length := by omega
          have HD : Hid (allTo l (i + 1) = out ++ [t]) := by
            rw [Hid, HS.out, insU_at (Nat.le_refl _) HK.out (fun h => absurd h (Nat.lt_irrefl _)), List.take_of_length_le (Nat.le_refl _), List.drop_eq_nil_of_le (Nat.le_refl _)]
          have i1 : decide ((out.length : Int) < (out.length : Int)) = false := by simp
          have i2 : ((out.length : Int) == (out.length : Int)) = true := by simp
          have hvo : (vo = none ∧ vc = 0 ∧ out = []) ∨ ∃ g go, vo = some ⟨g, go, none⟩ := by
            rcases hown.2 with ⟨e, e0⟩ | ⟨g, cap, cur, e, _⟩
            · simp only [Value.slice.injEq] at e
              exact .inl ⟨e.1, e.2.2, List.eq_nil_of_length_eq_zero e0⟩
            · simp only [Value.slice.injEq] at e
              exact .inr ⟨g, 0, e.1⟩
          rcases hvo with ⟨rfl, rfl, rfl⟩ | ⟨g, go, rfl⟩
          · simp only [List.length_nil] at *
            go_wp2
            go_quiet (fail)
            go_wp2
            generalize hW1 : (wo.drewN q).drewN nq = W1
            have hci1 : W1.cell? ⟨b, o + i, none⟩ = some (.int .u16 t) := by rw [← hW1]; exact hci
            have hB1 : Below w.heap.size w W1 := by rw [← hW1]; exact below_drewN (below_drewN hB _) _
            have hR1 : Rd .u16 W1 none 0 0 [] := by rw [← hW1]; exact (hR.drewN _).drewN _
            clear hW1 hci hown hB hR
            go_quiet (fail)
            go_wp2
            generalize hW2 : W1.drewN nq = W
            have hci2 : W.cell? ⟨b, o + i, none⟩ = some (.int .u16 t) := by rw [← hW2]; exact hci1
            have hB2 : Below w.heap.size w W := by rw [← hW2]; exact below_drewN hB1 _
            have hR2 : Rd .u16 W none 0 0 [] := by rw [← hW2]; exact hR1.drewN _
            clear hW2 hci1 hB1 hR1
            have j1 : (i : Int) < (n : Int) := by omega
            have bA : ∀ oA, Below W.heap.size W (W.alloc oA) := fun oA => (Below.refl _ _).alloc (Nat.le_refl _) oA
            have bAA : ∀ oA oC, Below W.heap.size W ((W.alloc oA).alloc oC) := fun oA oC => (bA oA).alloc (by simp) oC
            have pA : (W.alloc (.cells #[] 33)).ownsRow W.heap.size 33 1 (.slice (some ⟨W.heap.size, 0, none⟩) 0 0) 0 [] := World.ownsRow_made W #[] 0 (Nat.le_refl _) (Nat.zero_le _) rfl
            have pAC := fun oC => pA.alloc oC
            have pCA : ∀ oC, ((W.alloc oC).alloc (.cells #[] 33)).ownsRow W.heap.size 33 1 (.slice (some ⟨W.heap.size + 1, 0, none⟩) 0 0) 0 [] := fun oC => by
              have := World.ownsRow_made (base := W.heap.size) (e := 33) (size := 1) (W.alloc oC) #[] 0 (by simp) (Nat.zero_le _) rfl
              simpa using this
            have ne1 : some (W.heap.size + 1) ≠ some W.heap.size := by simp
            have ne2 : some W.heap.size ≠ some (W.heap.size + 1) := by simp
            have cCA : ((W.alloc (.cells #[.int .u16 t] 33)).alloc (.cells #[] 33)).cell? ⟨W.heap.size, 0, none⟩ = some (.int .u16 t) := by simp [go_sem]
            have cAC : ((W.alloc (.cells #[] 33)).alloc (.cells #[.int .u16 t] 33)).cell? ⟨W.heap.size + 1, 0, none⟩ = some (.int .u16 t) := by simp [go_sem]
            have hWs : w.heap.size ≤ W.heap.size := hB2.size
            go_region_held3 (fun w' => w'.cell? ⟨b, o + i, none⟩ = some (.int .u16 t)) (first | go_keep | exact cell_later hbel1 hci2 | exact cell_later hbel2 hci2 | exact cell_later hbel3 hci2)
              ((first
                | (refine step_guard (.tmp 44) (.tmp 47) 23 ?_ ?_; (exact rfl); refine step_append_none (by rfl) (.tmp 44) (.tmp 47) 23 (by rfl) W.heap.size 33 i0 1 Try.underlying23 hi _ 0 [] (by rfl) (by first | exact pA | exact pAC _ | exact pCA _) (by rfl) ?_)
                | (refine step_guard (.tmp 48) (.tmp 53) 23 ?_ ?_; (exact rfl); refine step_append_below (by rfl) (.tmp 48) (.tmp 53) 23 (by rfl) 33 i0 (.int .u16 0) 1 2 Try.underlying23 hi hz0 hz1 hz2 rfl (by decide) W (by first | exact (bA _).drew | exact (bAA _ _).drew | exact (bA _).drew.alloc (by simp) _) _ 0 [] (by rfl) (by first | exact pA | exact pAC _ | exact pCA _) _ 1 1 [.int .u16 t] (by rfl) (by rfl) (by first | exact one_of cCA | exact one_of cAC) (ints_one .u16 [t]) (by unfold maxLen; omega) (by omega) ?_; intro v2 w2 hown2 hbel2 hkeep2)
                | (refine step_guard (.tmp 54) (.tmp 57) 23 ?_ ?_; (exact rfl); refine step_append_none (by rfl) (.tmp 54) (.tmp 57) 23 (by rfl) W.heap.size 33 i0 1 Try.underlying23 hi _ _ _ (by rfl) hown2 (by rfl) ?_)))
            all_goals
              have hB3 : Below w.heap.size w w2 := hB2.trans (hbel2.mono hWs)
              have hF := all_end (pre := []) (suf := []) hWs (by simp) hown2
              clear hown2 hbel2 hkeep2
              go_wp2
              go_roundw
              case rel => exact ⟨i + 1, _, by omega, by go_num, by simp only [List.length_append, List.length_cons, List.length_nil]; omega, hF, hB3, HD.out.symm⟩
              case measure => simp only [intOf]; omega
          · go_wp2
            go_quiet (fail)
            go_wp2
            generalize hW1 : (wo.drewN q).drewN nq = W1
            have hci1 : W1.cell? ⟨b, o + i, none⟩ = some (.int .u16 t) := by rw [← hW1]; exact hci
            have hB1 : Below w.heap.size w W1 := by rw [← hW1]; exact below_drewN (below_drewN hB _) _
            have hR1 : Rd .u16 W1 (some ⟨g, go, none⟩) out.length vc out := by rw [← hW1]; exact (hR.drewN _).drewN _
            clear hW1 hci hown hB hR
            go_quiet (fail)
            go_wp2
            generalize hW2 : W1.drewN nq = W
            have hci2 : W.cell? ⟨b, o + i, none⟩ = some (.int .u16 t) := by rw [← hW2]; exact hci1
            have hB2 : Below w.heap.size w W := by rw [← hW2]; exact below_drewN hB1 _
            have hR2 : Rd .u16 W (some ⟨g, go, none⟩) out.length vc out := by rw [← hW2]; exact hR1.drewN _
            clear hW2 hci1 hB1 hR1
            have hoc := hR2.cap
            have hom := hR2.max
            have j1 : (i : Int) < (n : Int) := by omega
            have bA : ∀ oA, Below W.heap.size W (W.alloc oA) := fun oA => (Below.refl _ _).alloc (Nat.le_refl _) oA
            have bAA : ∀ oA oC, Below W.heap.size W ((W.alloc oA).alloc oC) := fun oA oC => (bA oA).alloc (by simp) oC
            have pA : (W.alloc (.cells #[] 33)).ownsRow W.heap.size 33 1 (.slice (some ⟨W.heap.size, 0, none⟩) 0 0) 0 [] := World.ownsRow_made W #[] 0 (Nat.le_refl _) (Nat.zero_le _) rfl
            have pAC := fun oC => pA.alloc oC
            have pCA : ∀ oC, ((W.alloc oC).alloc (.cells #[] 33)).ownsRow W.heap.size 33 1 (.slice (some ⟨W.heap.size + 1, 0, none⟩) 0 0) 0 [] := fun oC => by
              have := World.ownsRow_made (base := W.heap.size) (e := 33) (size := 1) (W.alloc oC) #[] 0 (by simp) (Nat.zero_le _) rfl
              simpa using this
            have ne1 : some (W.heap.size + 1) ≠ some W.heap.size := by simp
            have ne2 : some W.heap.size ≠ some (W.heap.size + 1) := by simp
            have cCA : ((W.alloc (.cells #[.int .u16 t] 33)).alloc (.cells #[] 33)).cell? ⟨W.heap.size, 0, none⟩ = some (.int .u16 t) := by simp [go_sem]
            have cAC : ((W.alloc (.cells #[] 33)).alloc (.cells #[.int .u16 t] 33)).cell? ⟨W.heap.size + 1, 0, none⟩ = some (.int .u16 t) := by simp [go_sem]
            have hWs : w.heap.size ≤ W.heap.size := hB2.size
            by_cases hvc : vc = out.length
            · subst hvc
              go_region_held3 (fun w' => w'.cell? ⟨b, o + i, none⟩ = some (.int .u16 t)) (first | go_keep | exact cell_later hbel1 hci2 | exact cell_later hbel2 hci2 | exact cell_later hbel3 hci2)
                ((first
                  | (refine step_guard (.tmp 44) (.tmp 47) 23 ?_ ?_; (exact rfl); refine step_append_below (by rfl) (.tmp 44) (.tmp 47) 23 (by rfl) 33 i0 (.int .u16 0) 1 2 Try.underlying23 hi hz0 hz1 hz2 rfl (by decide) W (by first | exact (bA _).drew | exact (bAA _ _).drew) _ 0 [] (by rfl) (by first | exact pA | exact pAC _ | exact pCA _) ⟨g, go, none⟩ out.length _ (out.map (Value.int .u16)) (by rfl) (by simp) (by first | exact (hR2.later (bA _).drew).news | exact (hR2.later (bAA _ _).drew).news) (ints_one _ _) (by unfold maxLen; omega) (by omega) ?_; intro v1 w1 hown1 hbel1 hkeep1)
                  | (refine step_guard (.tmp 48) (.tmp 53) 23 ?_ ?_; (exact rfl); refine step_append_below (by rfl) (.tmp 48) (.tmp 53) 23 (by rfl) 33 i0 (.int .u16 0) 1 2 Try.underlying23 hi hz0 hz1 hz2 rfl (by decide) W (by first | exact hbel1 | exact hbel1.alloc hbel1.size _) _ _ _ (by rfl) (by first | exact hown1 | exact hown1.alloc _) _ 1 1 [.int .u16 t] (by rfl) (by rfl) (by first | exact one_new0 _ _ _ | exact one_of (hkeep1 _ _ _ cCA ne2) | exact one_of (hkeep1 _ _ _ cAC ne1)) (ints_one .u16 [t]) (by unfold maxLen; omega) (by omega) ?_; intro v2 w2 hown2 hbel2 hkeep2)
                  | (refine step_guard (.tmp 54) (.tmp 57) 23 ?_ ?_; (exact rfl); refine step_append_below (by rfl) (.tmp 54) (.tmp 57) 23 (by rfl) 33 i0 (.int .u16 0) 1 2 Try.underlying23 hi hz0 hz1 hz2 rfl (by decide) W hbel2 _ _ _ (by rfl) hown2 _ 0 _ [] (by rfl) (by rfl) (fun j u hj => by simp at hj) (fun u hu => by simp at hu) (by unfold maxLen; omega) (by omega) ?_; intro v3 w3 hown3 hbel3 hkeep3)))
              all_goals
                have hB3 : Below w.heap.size w w3 := hB2.trans (hbel3.mono hWs)
                have hF := all_end (pre := out) (suf := []) hWs (by simp) hown3
                clear hown1 hown2 hown3 hbel1 hbel2 hbel3 hkeep1 hkeep2 hkeep3
                go_wp2
                go_roundw
                case rel => exact ⟨i + 1, _, by omega, by go_num, by simp; omega, hF, hB3, HD.out.symm⟩
                case measure => simp only [intOf]; omega
            · have j4 : (out.length : Int) ≤ (vc : Int) := by omega
              go_region_held3 (fun w' => w'.cell? ⟨b, o + i, none⟩ = some (.int .u16 t)) (first | go_keep | exact cell_later hbel1 hci2 | exact cell_later hbel2 hci2 | exact cell_later hbel3 hci2)
                ((first
                  | (refine step_guard (.tmp 44) (.tmp 47) 23 ?_ ?_; (exact rfl); refine step_append_below (by rfl) (.tmp 44) (.tmp 47) 23 (by rfl) 33 i0 (.int .u16 0) 1 2 Try.underlying23 hi hz0 hz1 hz2 rfl (by decide) W (by first | exact (bA _).drew | exact (bAA _ _).drew) _ 0 [] (by rfl) (by first | exact pA | exact pAC _ | exact pCA _) ⟨g, go, none⟩ out.length _ (out.map (Value.int .u16)) (by rfl) (by simp) (by first | exact (hR2.later (bA _).drew).news | exact (hR2.later (bAA _ _).drew).news) (ints_one _ _) (by unfold maxLen; omega) (by omega) ?_; intro v1 w1 hown1 hbel1 hkeep1)
                  | (refine step_guard (.tmp 48) (.tmp 53) 23 ?_ ?_; (exact rfl); refine step_append_below (by rfl) (.tmp 48) (.tmp 53) 23 (by rfl) 33 i0 (.int .u16 0) 1 2 Try.underlying23 hi hz0 hz1 hz2 rfl (by decide) W (by first | exact hbel1 | exact hbel1.alloc hbel1.size _) _ _ _ (by rfl) (by first | exact hown1 | exact hown1.alloc _) _ 1 1 [.int .u16 t] (by rfl) (by rfl) (by first | exact one_new0 _ _ _ | exact one_of (hkeep1 _ _ _ cCA ne2) | exact one_of (hkeep1 _ _ _ cAC ne1)) (ints_one .u16 [t]) (by unfold maxLen; omega) (by omega) ?_; intro v2 w2 hown2 hbel2 hkeep2)
                  | (refine step_guard (.tmp 54) (.tmp 57) 23 ?_ ?_; (exact rfl); refine step_append_below (by rfl) (.tmp 54) (.tmp 57) 23 (by rfl) 33 i0 (.int .u16 0) 1 2 Try.underlying23 hi hz0 hz1 hz2 rfl (by decide) W hbel2 _ _ _ (by rfl) hown2 _ 0 _ [] (by rfl) (by rfl) (fun j u hj => by simp at hj) (fun u hu => by simp at hu) (by unfold maxLen; omega) (by omega) ?_; intro v3 w3 hown3 hbel3 hkeep3)))
              all_goals
                have hB3 : Below w.heap.size w w3 := hB2.trans (hbel3.mono hWs)
                have hF := all_end (pre := out) (suf := []) hWs (by simp) hown3
                clear hown1 hown2 hown3 hbel1 hbel2 hbel3 hkeep1 hkeep2 hkeep3
                go_wp2
                go_roundw
                case rel => exact ⟨i + 1, _, by omega, by go_num, by simp; omega, hF, hB3, HD.out.symm⟩
                case measure => simp only [intOf]; omega
    · go_wp2
      go_ret
      refine fin_rel hown hB ?_
      rw [HE.out, allTo, List.take_of_length_le (by omega)]

end Go.Proofs.Ytghifjiohgninaa
