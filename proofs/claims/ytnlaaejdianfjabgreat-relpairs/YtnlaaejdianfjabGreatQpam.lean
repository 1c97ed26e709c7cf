import Derived.Test.YtnlaaejdianfjabGreatQpai
import Derived.Test.YtnlaaejdianfjabGreatQpak
import Derived.Test.YtnlaaejdianfjabGreatQpal
import Derived.Deep.AppendSrc
import Derived.Test.YtnlaaejdianfjabGreatQpag
namespace Go.Proofs.YtnlaaejdianfjabGreat
open Go.RowKit
set_option linter.unusedVariables false
set_option linter.unusedSimpArgs false

theorem flat_len {k : Nat} : ∀ {l : List (List Value)}, (∀ cs ∈ l, cs.length = k) → l.flatten.length = l.length * k
  | [], _ => by simp
  | a :: l, h => by
    rw [List.flatten_cons, List.length_append, flat_len fun x hx => h x (by simp [hx]), h a (by simp), List.length_cons, Nat.succ_mul]
    omega
theorem run_appU {t ty e : TypeId} {z : Value} {k bytes B : Nat} (ht : Tryz.prog.underlying t = some (.slice e)) (hinf : (Tryz.prog.info? e).map (fun i => (i.zero, i.size, i.bytes)) = some (some z, k, bytes)) (hzs : z.cells.size = k) (hk : 0 < k) (hby : bytes ≤ 1000)
    (w : World) (b n cap : Nat) (ao : Option Addr) (m c : Nat) (css css2 : List (List Value)) (hown : OwnR e k B w (.slice (some ⟨b, 0, none⟩) n cap) css) (hcs : ∀ cs ∈ css2, cs.length = k) (hm : css2.length = m) (h1 : ∀ u ∈ css2.flatten, u.oneCell' = true)
    (hx : ∀ j u, css2.flatten[j]? = some u → ∃ ad, ao = some ad ∧ w.cell? (ad.add j) = some u) (hl : css.length + m ≤ 1000) (hB : B ≤ w.heap.size) :
    ∃ b' n' c' w', (Builtin.append_ #[t, t] ty #[.slice (some ⟨b, 0, none⟩) n cap, .slice ao m c]).run Tryz.prog w = .ok (.slice (some ⟨b', 0, none⟩) n' c') w' ∧ OwnR e k B w' (.slice (some ⟨b', 0, none⟩) n' c') (css ++ css2) ∧ w.grownBy w' (some b) ∧ (b' = b ∨ b' = w.heap.size) := by
  obtain ⟨i, hi, hz, hsz, hb⟩ := info_parts hinf
  have hnc : n ≤ cap := by
    rcases hown.2.2 with ⟨e, _⟩ | ⟨b', cap', cur, e, _, _, hnc, _⟩
    · cases e
    · cases e; exact hnc
  by_cases hm0 : m = 0
  · subst hm0
    obtain rfl : css2 = [] := List.eq_nil_of_length_eq_zero hm
    have hS : Src Tryz.prog i.size t (.slice ao 0 c) 0 [] w := by
      cases ao with
      | none => exact Src.ofNil w ht c
      | some ad => exact Src.ofSlice w ht ad 0 c [] (by simp) (by simp) (by simp)
    have := run_append_room_src w t t ty e i ht hi b 0 n cap (.slice ao 0 c) 0 [] hS (by omega) (fun j hj => absurd hj (by simp)) (fun j hj => absurd hj (by simp))
    exact ⟨_, _, _, _, this, by rw [List.append_nil]; exact hown, ⟨rfl, rfl, rfl, Nat.le_refl _, fun _ _ _ => rfl⟩, .inl rfl⟩
  · have hfl := flat_len hcs
    have hpos : 0 < css2.flatten.length := by rw [hfl, hm]; exact Nat.mul_pos (by omega) hk
    obtain ⟨ad, rfl, -⟩ := hx 0 _ (List.getElem?_eq_getElem hpos)
    obtain ⟨v', w', hr, h2, h3, _, h5⟩ := run_append_own_at (P := Tryz.prog) w B t ty e i z k bytes ht hi hz hsz hb hzs hk _ css.length _ hown.2 ad m c css2.flatten (by rw [hfl, hm])
      (fun j u hj => by obtain ⟨ad', e', hc⟩ := hx j u hj; cases e'; exact hc) h1 (by unfold maxLen; omega) (by have : (css.length + m) * bytes ≤ 1000 * 1000 := Nat.mul_le_mul (by omega) hby; omega) hB
    have hO : OwnR e k B w' v' (css ++ css2) := ⟨fun cs hc => by
      rcases List.mem_append.1 hc with hc | hc
      · exact hown.1 cs hc
      · exact hcs cs hc, by rw [List.length_append, hm, List.flatten_append]; exact h2⟩
    rcases h2.2 with ⟨rfl, h0⟩ | ⟨g, cap', cur, rfl, _⟩
    · omega
    · refine ⟨g, _, cap', w', hr, hO, h3, ?_⟩
      rcases h5 with h5 | h5
      · exact .inl (Option.some.inj h5)
      · exact .inr (Option.some.inj h5)
theorem step_appU {t ety : TypeId} {z : Value} {k bytes B : Nat} {ops : Array Oper} {o : Oper} {a : Act} {w : World} {K : Act → World → Prop} {Q : Exit → Act → World → Prop} {E : Prop}
    (hgd : o.guard = none) (s x : Operand) (ho : o.op = .call { callee := .builtin .append, args := #[s, x], argTypes := #[t, t] })
    (ht : Tryz.prog.underlying t = some (.slice ety)) (hinf : (Tryz.prog.info? ety).map (fun i => (i.zero, i.size, i.bytes)) = some (some z, k, bytes)) (hzs : z.cells.size = k) (hk : 0 < k) (hby : bytes ≤ 1000)
    (b n cap : Nat) (ao : Option Addr) (m c : Nat) (css css2 : List (List Value)) (hs : a.eval s = .slice (some ⟨b, 0, none⟩) n cap) (hxv : a.eval x = .slice ao m c)
    (hown : OwnR ety k B w (.slice (some ⟨b, 0, none⟩) n cap) css) (hcs : ∀ cs ∈ css2, cs.length = k) (hm : css2.length = m) (h1 : ∀ u ∈ css2.flatten, u.oneCell' = true) (hx : ∀ j u, css2.flatten[j]? = some u → ∃ ad, ao = some ad ∧ w.cell? (ad.add j) = some u) (hl : css.length + m ≤ 1000) (hB : B ≤ w.heap.size)
    (h : ∀ b' n' c' w', OwnR ety k B w' (.slice (some ⟨b', 0, none⟩) n' c') (css ++ css2) → w.grownBy w' (some b) → (b' = b ∨ b' = w.heap.size) → K (a.put o.dst (.slice (some ⟨b', 0, none⟩) n' c')) w') :
    if Region.wanted o (yielded ops a.tmps) = true then Oper.wp Tryz.prog o a w K Q else E := by
  have hw : Region.wanted o (yielded ops a.tmps) = true := by simp [Region.wanted, hgd]
  rw [if_pos hw]
  obtain ⟨b', n', c', w', hr, h2, h3, h4⟩ := run_appU ht hinf hzs hk hby w b n cap ao m c css css2 hown hcs hm h1 hx hl hB (ty := o.type)
  unfold Oper.wp execOp
  simp only [ho, resolve, invoke, builtin, Sem.run_bind, Sem.run_pure, Result.andThen_ok, List.map_toArray, List.map_cons, List.map_nil, hs, hxv, hr]
  exact h b' n' c' w' h2 h3 h4
theorem OwnR.at0 {ty k B : Nat} {w : World} {b n c : Nat} {css : List (List Value)} (h : OwnR ty k B w (.slice (some ⟨b, 0, none⟩) n c) css) : B ≤ b ∧ b < w.heap.size := h.blk b rfl
theorem OwnR.lit0 (ty k B : Nat) (w : World) (hB : B ≤ w.heap.size) : OwnR ty k B (w.alloc (.cells #[] ty)) (.slice (some ⟨w.heap.size, 0, none⟩) 0 0) [] := ⟨fun c hc => by simp at hc, by simp, .inr ⟨w.heap.size, 0, #[], rfl, hB, heap_alloc_new w _, Nat.le_refl _, by simp [maxLen], by simp, by simp⟩⟩
theorem cVs_one (x : List Vt) : ∀ cs ∈ x.map cVs, cs.length = 3 := by
  intro cs h
  obtain ⟨z, _, rfl⟩ := List.mem_map.1 h
  rfl
theorem cVs_cell (x : List Vt) : ∀ u ∈ (x.map cVs).flatten, u.oneCell' = true := by
  intro u h
  obtain ⟨cs, h1, h2⟩ := List.mem_flatten.1 h
  obtain ⟨z, _, rfl⟩ := List.mem_map.1 h1
  rcases List.mem_cons.1 h2 with rfl | h2
  · rfl
  · rcases List.mem_cons.1 h2 with rfl | h2
    · rfl
    · rw [List.mem_singleton] at h2; subst h2; rfl
theorem cVs_src {Q : Nat → Prop} {w : World} {a : Option Addr} {n c : Nat} {x : List Vt} (h : RowIs eVal Q w (.slice a n c) x) : ∀ j u, (x.map cVs).flatten[j]? = some u → ∃ ad, a = some ad ∧ w.cell? (ad.add j) = some u := by
  intro j u hj
  have hl := flat_len (cVs_one x)
  rw [List.length_map] at hl
  have hjl : j < x.length * 3 := by rw [← hl]; exact (List.getElem?_eq_some_iff.1 hj).1
  have hi : j / 3 < x.length := by omega
  have hf := flat_at (k := 3) (cVs_one x) (i := j / 3) (j := j % 3) (by rw [List.length_map]; exact hi) (by omega)
  rw [show j / 3 * 3 + j % 3 = j from by omega, hj, List.getElem_map] at hf
  obtain ⟨b, o, rfl, -, c0, c1, c2⟩ := val1 h hi
  refine ⟨_, rfl, ?_⟩
  rw [show (⟨b, o, none⟩ : Addr).add j = ⟨b, o + j, none⟩ from by simp [Addr.add]]
  have h3 : j % 3 = 0 ∨ j % 3 = 1 ∨ j % 3 = 2 := by omega
  rcases h3 with h3 | h3 | h3
  · rw [h3] at hf
    have e : o + j = o + j / 3 * 3 := by omega
    rw [e, c0, hf]; rfl
  · rw [h3] at hf
    have e : o + j = o + j / 3 * 3 + 1 := by omega
    rw [e, c1, hf]; rfl
  · rw [h3] at hf
    have e : o + j = o + j / 3 * 3 + 2 := by omega
    rw [e, c2, hf]; rfl
end Go.Proofs.YtnlaaejdianfjabGreat
namespace Go.Proofs.YtnlaaejdianfjabGreat
open Go.RowKit
set_option linter.unusedVariables false
set_option linter.unusedSimpArgs false

end Go.Proofs.YtnlaaejdianfjabGreat
namespace Go.Proofs.YtnlaaejdianfjabGreat
open Go.RowKit
set_option linter.unusedVariables false
set_option linter.unusedSimpArgs false

end Go.Proofs.YtnlaaejdianfjabGreat
namespace Go.Proofs.YtnlaaejdianfjabGreat
open Go.RowKit
set_option linter.unusedVariables false
set_option linter.unusedSimpArgs false

end Go.Proofs.YtnlaaejdianfjabGreat
namespace Go.Proofs.YtnlaaejdianfjabGreat
open Go.RowKit
set_option linter.unusedVariables false
set_option linter.unusedSimpArgs false

/-- A function value that asks a row. -/
def SuchR (p : List Vt → Bool) (w : World) (v : Value) : Prop := ∃ N caps, v = .func (.func N) #[] caps ∧ (∀ args w', (callFunc N args).run Tryz.prog w' = .ok (.enter N args) w') ∧ ∀ (x : List Vt) (a : Option Addr) (n c : Nat) (Q : Nat → Prop) (w' : World), Below w.heap.size w w' → RowIs eVal Q w' (.slice a n c) x → Calls Tryz.prog N (#[.slice a n c] ++ caps) w' fun en w'' => en = .returned (.bool (p x)) ∧ Below w'.heap.size w' w''
set_option maxRecDepth 100000 in
set_option maxHeartbeats 2000000 in
theorem idxRow_any {l : List (List Vt)} {p : List Vt → Bool} (hlen : l.length ≤ 500) {Q : Nat → Prop} {w : World} {ao : Option Addr} {n c : Nat} (h : RowIs eRow Q w (.slice ao n c) l) {v : Value} (hv : SuchR p w v) :
    Calls Tryz.prog 65 #[.slice ao n c, v] w fun en w' => en = .returned (.int .i64 (fidx p l)) ∧ Below w.heap.size w w' := by
  have HR : Hid (∀ w', Below w.heap.size w w' → RowIs eRow Q w' (.slice ao n c) l) := hid fun w' hb => h.keep (by decide) fun b _ hl => hb.block b hl
  obtain ⟨N, caps, rfl, hcf, hN⟩ := hv
  have HN : Hid (∀ (x : List Vt) (a : Option Addr) (n c : Nat) (Q : Nat → Prop) (w' : World), Below w.heap.size w w' → _) := hid hN
  obtain ⟨hn, hnc, hc⟩ := row_lens h
  subst hn
  obtain ⟨R, hR⟩ : ∃ R, fidx p l = R := ⟨_, rfl⟩
  have HF : Hid _ := hid hR
  rw [hR]
  clear hN hR h
  go_enter Tryz.func65, Tryz.ntmps65
  go_wp2
  go_loopw [5, 8] (fun _ v8 wr => ∃ k : Nat, k ≤ l.length ∧ v8 = .int .i64 k ∧ Below w.heap.size w wr ∧ Hid (∀ i (hi : i < l.length), i < k → p l[i] = false)) (fun _ i _ => l.length - (intOf i).toNat)
  case atStart => exact ⟨0, Nat.zero_le _, rfl, Below.refl _ _, hid fun i h hi => absurd hi (by omega)⟩
  case round =>
    obtain ⟨k, hk, rfl, hB, HE⟩ := hrel
    by_cases hlt : k < l.length
    · obtain ⟨b, o, xa, xn, xc, rfl, -, x0, rx⟩ := row1 (HR.out wr hB) (k := k) hlt
      obtain ⟨x, hxl⟩ : ∃ x, l[k] = x := ⟨_, rfl⟩
      rw [hxl] at rx
      have HX := HN.out x xa xn xc _ wr hB rx
      have hkm : (k : Int) < (l.length : Int) := by omega
      have hk5 : k ≤ 500 := by omega
      have HXl : Hid _ := hid hxl
      clear rx hxl
      cases hp : p x with
      | true =>
        rw [hp] at HX
        have HP : Hid (fidx p l = k) := hid (fidx_hit hlt HE.out (by rw [HXl.out]; exact hp))
        replace HX : Hid _ := hid HX
        clear hp
        go_wp2_with fail
        refine Calls.mono HX.out ?_
        rintro e w4 ⟨rfl, hb4⟩
        have hB4 : Below w.heap.size w w4 := Below.on hB hb4
        clear HX hb4 hB
        go_wp2
        go_ret
        exact ⟨ret_int (by rw [← HF.out, HP.out]), hB4⟩
      | false =>
        rw [hp] at HX
        have HN2 : Hid (∀ i (hi : i < l.length), i < k + 1 → p l[i] = false) := hid fun i hi hik => by
          by_cases he : i < k
          · exact HE.out i hi he
          · obtain rfl : i = k := by omega
            rw [HXl.out]; exact hp
        replace HX : Hid _ := hid HX
        clear hp HE
        go_wp2_with fail
        refine Calls.mono HX.out ?_
        rintro e w4 ⟨rfl, hb4⟩
        have hB4 : Below w.heap.size w w4 := Below.on hB hb4
        clear HX hb4 hB
        go_wp2
        go_roundw
        case rel => exact ⟨k + 1, hlt, by go_num, hB4, HN2⟩
        case measure => simp only [intOf]; omega
    · obtain rfl : k = l.length := by omega
      have HP : Hid (fidx p l = -1) := hid (fidx_none fun i hi => HE.out i hi hi)
      clear HE
      go_wp2
      go_ret
      exact ⟨ret_int (by rw [← HF.out, HP.out]), hB⟩
set_option maxRecDepth 100000 in
set_option maxHeartbeats 2000000 in
theorem containsRow_any {l : List (List Vt)} {p : List Vt → Bool} (hlen : l.length ≤ 500) {Q : Nat → Prop} {w : World} {ao : Option Addr} {n c : Nat} (h : RowIs eRow Q w (.slice ao n c) l) {v : Value} (hv : SuchR p w v) :
    Calls Tryz.prog 40 #[.slice ao n c, v] w fun en w' => en = .returned (.bool (l.any p)) ∧ Below w.heap.size w w' := by
  have HC : Hid _ := hid (idxRow_any hlen h hv)
  have he := fidxV_any p l
  obtain ⟨N, caps, rfl, hcf, hN⟩ := hv
  clear h hN
  generalize fidx p l = R at *
  have HE : Hid _ := hid he
  clear he
  go_enter Tryz.func40, Tryz.ntmps40
  go_wp2_with fail
  refine Calls.mono HC.out ?_
  rintro e w4 ⟨rfl, hb4⟩
  go_wp2
  go_ret
  exact ⟨ret_bool HE.out, hb4⟩
def lackP (bi : Int) (r : List Vt) : Bool := decide (bi < 0) || decide ((r.length : Int) ≤ bi)
set_option maxRecDepth 100000 in
set_option maxHeartbeats 2000000 in
theorem lacks_any {w : World} {b : Nat} {bi : Int} (hb : w.cell? ⟨b, 0, none⟩ = some (.int .i64 bi)) {x : List Vt} {a : Option Addr} {n c : Nat} {Q : Nat → Prop} (h : RowIs eVal Q w (.slice a n c) x) :
    Calls Tryz.prog 39 #[.slice a n c, .pointer (some ⟨b, 0, none⟩)] w fun e w' => e = .returned (.bool (lackP bi x)) ∧ Below w.heap.size w w' := by
  have hn := (row_lens h).1
  have HT : Hid (lackP bi x = (decide (bi < 0) || decide ((n : Int) ≤ bi))) := hid (by rw [lackP, hn])
  generalize lackP bi x = T at *
  clear h hn
  by_cases h0 : bi < 0
  · have e1 : decide (bi < 0) = true := by simpa using h0
    rw [e1] at HT
    go_enter Tryz.func39, Tryz.ntmps39
    go_wp2
    go_ret
    exact ⟨ret_bool (by rw [HT.out]; rfl), Below.refl _ _⟩
  · have e1 : decide (bi < 0) = false := by simpa using h0
    rw [e1] at HT
    go_enter Tryz.func39, Tryz.ntmps39
    go_wp2
    go_ret
    exact ⟨ret_bool (by rw [HT.out]; rfl), Below.refl _ _⟩
set_option maxRecDepth 100000 in
theorem lacks_of {w : World} {b : Nat} {bi : Int} (hb : w.cell? ⟨b, 0, none⟩ = some (.int .i64 bi)) : SuchR (lackP bi) w (.func (.func 39) #[] #[.pointer (some ⟨b, 0, none⟩)]) :=
  ⟨_, _, rfl, fun args w' => by rfl, fun x a n c Q w' hb2 h => lacks_any (cell_later hb2 hb) h⟩
theorem lack_whole (bi : Int) (L : List (List Vt)) (hp : 0 < L.length) : L.any (lackP bi) = !wholeP bi L := by
  unfold wholeP
  have hp : L ≠ [] := by intro h; subst h; simp at hp
  rw [Bool.eq_iff_iff, List.any_eq_true]
  simp only [lackP, Bool.or_eq_true, decide_eq_true_eq, Bool.not_eq_true', Bool.and_eq_false_iff, decide_eq_false_iff_not, List.all_eq_false]
  constructor
  · rintro ⟨x, hx, h | h⟩
    · exact .inl (by omega)
    · exact .inr ⟨x, hx, by omega⟩
  · rintro (h | ⟨x, hx, h⟩)
    · obtain ⟨x, hx⟩ := List.exists_mem_of_ne_nil _ hp
      exact ⟨x, hx, .inl (by omega)⟩
    · exact ⟨x, hx, .inr (by omega)⟩
set_option maxRecDepth 100000 in
set_option maxHeartbeats 4000000 in
theorem inOrder_any {L : List (List Vt)} (hm : L.length ≤ 20) (bi : Int) (ds : Bool) {Q : Nat → Prop} {w : World} {a : Option Addr} {n c : Nat} (h : RowIs eRow Q w (.slice a n c) L) :
    Calls Tryz.prog 21 #[.slice a n c, .int .i64 bi, .bool ds] w fun e w' => ∃ a' n' c', e = .returned (.slice a' n' c') ∧ RowIs eRow (fun _ => True) w' (.slice a' n' c') (srtP bi ds L) ∧ Below w.heap.size w w' := by
  obtain ⟨l1, l2, l3⟩ := row_lens h
  have hw := bal (Below.refl w.heap.size w) (.cells #[.int .i64 bi] 3)
  have k0 := (Bk.new w (.cells #[.int .i64 bi] 3)).cell 0
  simp only [List.getElem?_toArray, List.getElem?_cons_zero] at k0
  have hmf : ∀ (fn : Fn) (first cap : Array Value) (w : World), (Instr.makeFunc fn first cap).run Tryz.prog w = .ok (.func fn first cap) w := fun _ _ _ _ => rfl
  have HR : Hid (∀ w', Below w.heap.size w w' → RowIs eRow Q w' (.slice a n c) L) := hid fun w' hb => h.keep (by decide) fun b _ hl => hb.block b hl
  have HC : Hid _ := hid (containsRow_any (by omega) (HR.out _ hw) (lacks_of k0))
  by_cases hp : L.length = 0
  · have hL : L = [] := List.eq_nil_of_length_eq_zero hp
    subst hL
    obtain rfl : n = 0 := by simpa using l1.symm
    have hs : srtP bi ds [] = [] := by unfold srtP; split <;> rfl
    rw [hs]
    have HC2 : Hid (Calls Tryz.prog 40 #[.slice a 0 c, .func (.func 39) #[] #[.pointer (some ⟨w.heap.size, 0, none⟩)]] (w.alloc (.cells #[.int .i64 bi] 3)) fun en w' => en = .returned (.bool false) ∧ Below (w.alloc (.cells #[.int .i64 bi] 3)).heap.size (w.alloc (.cells #[.int .i64 bi] 3)) w') := HC
    clear HC HR h hs k0
    cases ds with
    | false =>
      go_enter Tryz.func21, Tryz.ntmps21
      go_upto_region 1 with fail
      generalize w.alloc (.cells #[.int .i64 bi] 3) = W at *
      go_wp2_with fail
      refine Calls.mono HC2.out ?_
      rintro e w1 ⟨rfl, hb1⟩
      have hB := Below.on hw hb1
      have HS : Hid (∀ y, _) := hid fun y => sortedNil_any (ao := a) (c := c) (N := 41) (M := 44) (caps := #[]) (caps2 := #[.pointer (some ⟨w.heap.size, 0, none⟩)]) y
      clear HC2 hb1
      go_wp2_with fail
      refine Calls.mono (HS.out _) ?_
      rintro e w2 ⟨a', c', rfl, hc', hb2⟩
      have hB2 := Below.on hB hb2
      clear HS hb2
      go_wp2
      go_ret
      exact ⟨_, _, _, rfl, ⟨_, 0, c', rfl, rfl, Nat.zero_le _, hc', fun h => absurd h (by omega)⟩, hB2⟩
    | true =>
      go_enter Tryz.func21, Tryz.ntmps21
      go_upto_region 1 with fail
      generalize w.alloc (.cells #[.int .i64 bi] 3) = W at *
      go_wp2_with fail
      refine Calls.mono HC2.out ?_
      rintro e w1 ⟨rfl, hb1⟩
      have hB := Below.on hw hb1
      have HF : Hid _ := hid (falling_any (cmpV_plain w1))
      clear HC2 hb1
      go_wp2_with fail
      refine Calls.mono HF.out ?_
      rintro e w2 ⟨u, rfl, ⟨N, caps, rfl, -, -⟩, hb2⟩
      have hB2 := Below.on hB hb2
      have HS : Hid (∀ y, _) := hid fun y => sortedNil_any (ao := a) (c := c) (N := N) (M := 44) (caps := caps) (caps2 := #[.pointer (some ⟨w.heap.size, 0, none⟩)]) y
      clear HF hb2
      go_wp2_with fail
      refine Calls.mono (HS.out _) ?_
      rintro e w3 ⟨a', c', rfl, hc', hb3⟩
      have hB3 := Below.on hB2 hb3
      clear HS hb3
      go_wp2
      go_ret
      exact ⟨_, _, _, rfl, ⟨_, 0, c', rfl, rfl, Nat.zero_le _, hc', fun h => absurd h (by omega)⟩, hB3⟩
  · rw [lack_whole bi L (by omega)] at HC
    cases hW : wholeP bi L with
    | false =>
      rw [hW] at HC
      have hs : srtP bi ds L = L := by unfold srtP; rw [hW]; rfl
      rw [hs]
      have HC2 : Hid (Calls Tryz.prog 40 #[.slice a n c, .func (.func 39) #[] #[.pointer (some ⟨w.heap.size, 0, none⟩)]] (w.alloc (.cells #[.int .i64 bi] 3)) fun en w' => en = .returned (.bool true) ∧ Below (w.alloc (.cells #[.int .i64 bi] 3)).heap.size (w.alloc (.cells #[.int .i64 bi] 3)) w') := HC
      clear HC h hs k0 hW
      go_enter Tryz.func21, Tryz.ntmps21
      go_upto_region 1 with fail
      generalize w.alloc (.cells #[.int .i64 bi] 3) = W at *
      go_wp2_with fail
      refine Calls.mono HC2.out ?_
      rintro e w1 ⟨rfl, hb1⟩
      have hB := Below.on hw hb1
      clear HC2 hb1
      go_wp2
      go_ret
      exact ⟨_, _, _, rfl, (HR.out _ hB).mono (by decide) fun _ _ _ => trivial, hB⟩
    | true =>
      rw [hW] at HC
      have hs : srtP bi ds L = L.foldl (insP bi.toNat ds) [] := by unfold srtP; rw [hW]; rfl
      have hW' := hW
      unfold wholeP at hW'
      rw [Bool.and_eq_true, List.all_eq_true] at hW'
      have h0 := of_decide_eq_true hW'.1
      have hb : ∀ l ∈ L, bi.toNat < l.length := fun l hl => by
        have := of_decide_eq_true (hW'.2 l hl)
        omega
      obtain ⟨bn, hbn⟩ : ∃ bn : Nat, bi = bn := ⟨bi.toNat, by omega⟩
      subst hbn
      rw [Int.toNat_natCast] at hs hb
      rw [hs]
      have HC2 : Hid (Calls Tryz.prog 40 #[.slice a n c, .func (.func 39) #[] #[.pointer (some ⟨w.heap.size, 0, none⟩)]] (w.alloc (.cells #[.int .i64 (bn : Int)] 3)) fun en w' => en = .returned (.bool false) ∧ Below (w.alloc (.cells #[.int .i64 (bn : Int)] 3)).heap.size (w.alloc (.cells #[.int .i64 (bn : Int)] 3)) w') := HC
      have HB : Hid _ := hid hb
      clear HC h hs hW hW' h0 hb
      cases ds with
      | false =>
        go_enter Tryz.func21, Tryz.ntmps21
        go_upto_region 1 with fail
        generalize w.alloc (.cells #[.int .i64 (bn : Int)] 3) = W at *
        go_wp2_with fail
        refine Calls.mono HC2.out ?_
        rintro e w1 ⟨rfl, hb1⟩
        have hB := Below.on hw hb1
        have HS : Hid _ := hid (sorted_any (ds := false) hm (by omega) HB.out (HR.out _ hB) (keyR_of (cell_later hb1 k0)) (cmpV_plain w1))
        clear HC2 hb1 k0
        go_wp2_with fail
        refine Calls.mono HS.out ?_
        rintro e w2 ⟨a', c', rfl, hr, hb2⟩
        have hB2 := Below.on hB hb2
        have HQ : Hid _ := hid hr
        clear HS hb2 hr
        go_wp2
        go_ret
        exact ⟨_, _, _, rfl, HQ.out, hB2⟩
      | true =>
        go_enter Tryz.func21, Tryz.ntmps21
        go_upto_region 1 with fail
        generalize w.alloc (.cells #[.int .i64 (bn : Int)] 3) = W at *
        go_wp2_with fail
        refine Calls.mono HC2.out ?_
        rintro e w1 ⟨rfl, hb1⟩
        have hB := Below.on hw hb1
        have k1 := cell_later hb1 k0
        have HF : Hid _ := hid (falling_any (cmpV_plain w1))
        clear HC2 hb1 k0
        go_wp2_with fail
        refine Calls.mono HF.out ?_
        rintro e w2 ⟨u, rfl, hu, hb2⟩
        have hB2 := Below.on hB hb2
        have HS : Hid _ := hid (sorted_any (ds := true) hm (by omega) HB.out (HR.out _ hB2) (keyR_of (cell_later hb2 k1)) hu)
        obtain ⟨N, caps, rfl, -, -⟩ := hu
        clear HF hb2 k1
        go_wp2_with fail
        refine Calls.mono HS.out ?_
        rintro e w3 ⟨a', c', rfl, hr, hb3⟩
        have hB3 := Below.on hB2 hb3
        have HQ : Hid _ := hid hr
        clear HS hb3 hr
        go_wp2
        go_ret
        exact ⟨_, _, _, rfl, HQ.out, hB3⟩
theorem srt_mem (bi : Int) (ds : Bool) (L : List (List Vt)) : ∀ l ∈ srtP bi ds L, l ∈ L := by
  have hi : ∀ (bn : Nat) (L O : List (List Vt)), ∀ l ∈ L.foldl (insP bn ds) O, l ∈ O ∨ l ∈ L := fun bn L => by
    induction L with
    | nil => intro O l hl; exact .inl hl
    | cons x L ih =>
      intro O l hl
      rcases ih _ l hl with h | h
      · unfold insP at h
        rcases List.mem_append.1 h with h | h
        · exact .inl (List.mem_of_mem_take h)
        · rcases List.mem_cons.1 h with rfl | h
          · exact .inr (by simp)
          · exact .inl (List.mem_of_mem_drop h)
      · exact .inr (by simp [h])
  unfold srtP
  split
  · intro l hl
    rcases hi _ _ _ l hl with h | h
    · simp at h
    · exact h
  · exact fun l h => h
theorem srt_len (bi : Int) (ds : Bool) (L : List (List Vt)) : (srtP bi ds L).length = L.length := by
  have hi : ∀ (bn : Nat) (L O : List (List Vt)), (L.foldl (insP bn ds) O).length = O.length + L.length := fun bn L => by
    induction L with
    | nil => intro O; rfl
    | cons x L ih =>
      intro O
      rw [List.foldl_cons, ih]
      have : (insP bn ds O x).length = O.length + 1 := by
        unfold insP
        rw [List.length_append, List.length_cons, List.length_take, List.length_drop]
        omega
      rw [this, List.length_cons]; omega
  unfold srtP
  split
  · rw [hi]; simp
  · rfl
set_option maxRecDepth 100000 in
set_option maxHeartbeats 2000000 in
theorem sortT_any {L : List (List Vt)} (hm : L.length ≤ 20) (hM : ∀ l ∈ L, l.length ≤ 500) (hs : ∀ l ∈ L, ∀ v ∈ l, v.2.2.size ≤ 281474976710656) (bi : Int) (ds : Bool) {Q : Nat → Prop} {w : World} {a : Option Addr} {n c : Nat} (h : RowIs eRow Q w (.slice a n c) L) :
    Calls Tryz.prog 9 #[.slice a n c, .int .i64 bi, .bool ds] w fun e w' => ∃ v, e = .returned v ∧ TeRs w.heap.size w' v (srtP bi ds L) ∧ Below w.heap.size w w' := by
  have HI : Hid _ := hid (inOrder_any hm bi ds h)
  have HM : Hid (∀ l ∈ srtP bi ds L, l.length ≤ 500) := hid fun l hl => hM l (srt_mem bi ds L l hl)
  have HS : Hid (∀ l ∈ srtP bi ds L, ∀ v ∈ l, v.2.2.size ≤ 281474976710656) := hid fun l hl => hs l (srt_mem bi ds L l hl)
  have hl := srt_len bi ds L
  generalize srtP bi ds L = R at *
  have hR : R.length ≤ 500 := by omega
  clear h hM hs
  go_enter Tryz.func9, Tryz.ntmps9
  go_wp2_with fail
  refine Calls.mono HI.out ?_
  rintro e w1 ⟨a', n', c', rfl, hr, hb1⟩
  have HC : Hid _ := hid (copied_any hR HM.out HS.out hr)
  clear HI hr
  go_wp2_with fail
  refine Calls.mono HC.out ?_
  rintro e w2 ⟨v, rfl, ht, hb2⟩
  have hB := Below.on hb1 hb2
  have HT : Hid _ := hid (ht.base hb1.size)
  clear HC ht hb1 hb2
  go_wp2
  go_ret
  exact ⟨_, rfl, HT.out, hB⟩

end Go.Proofs.YtnlaaejdianfjabGreat
namespace Go.Proofs.YtnlaaejdianfjabGreat
open Go.RowKit
set_option linter.unusedVariables false
set_option linter.unusedSimpArgs false

theorem vaOK_good {k i : Int} {s : ByteArray} (h : VaOK k i s) : mayV k i (nums s) = true ∧ Fits i ∧ s.size ≤ maxLen := by
  rcases h with ⟨rfl, rfl, hs⟩ | ⟨rfl, rfl, hi⟩
  · simp only [List.mem_cons, List.not_mem_nil, or_false] at hs
    refine ⟨?_, fits0, ?_⟩
    · rcases hs with rfl | rfl | rfl | rfl | rfl <;> decide
    · rcases hs with rfl | rfl | rfl | rfl | rfl <;> decide
  · exact ⟨by simp [mayV, nums], by unfold Fits; omega, by decide⟩
theorem rwOK_good {L : List Co} {V : List Vt} (h : RwOK L V) : ∀ v ∈ V, mayV v.1 v.2.1 (nums v.2.2) = true ∧ Fits v.2.1 ∧ v.2.2.size ≤ maxLen := by
  intro v hv
  obtain ⟨i, hi, rfl⟩ := List.mem_iff_getElem.1 hv
  obtain ⟨h1, h2⟩ := h.2 i (by rw [← h.1]; exact hi) hi
  rw [h1]
  exact vaOK_good h2
end Go.Proofs.YtnlaaejdianfjabGreat
namespace Go.Proofs.YtnlaaejdianfjabGreat
open Go.RowKit
set_option linter.unusedVariables false
set_option linter.unusedSimpArgs false

theorem Tryz.infoTItR : (Tryz.prog.info? 68).map (fun i => (i.zero, i.size, i.bytes)) = some (some (.agg #[.int .i64 0, .string ⟨#[]⟩, .string ⟨#[]⟩]), 3, 40) := by kernel_rfl
/-- All columns of these tables, each with its table's name. -/
def scT (t : Tbl) : List It := t.cols.map fun c => (0, t.name, c.1)
def scP (ts : List Tbl) : List It := ts.flatMap scT
theorem tbl1 {Q : Nat → Prop} {w : World} {a : Option Addr} {n c : Nat} {l : List Tbl} (h : RowIs eTbl Q w (.slice a n c) l) {k : Nat} (hk : k < l.length) : ∃ b o ca cn cc xa xn xc, a = some ⟨b, o, none⟩ ∧ w.cell? ⟨b, o + k * 3, none⟩ = some (.string l[k].name) ∧ w.cell? ⟨b, o + k * 3 + 1, none⟩ = some (.slice ca cn cc) ∧ w.cell? ⟨b, o + k * 3 + 2, none⟩ = some (.slice xa xn xc) ∧ RowIs eCol Q w (.slice ca cn cc) l[k].cols := by
  obtain ⟨_, _, _, e, hn, hnc, hc, hx⟩ := h
  cases e
  obtain ⟨b, o, rfl, hq, hi⟩ := hx (by omega)
  obtain ⟨cs, h1, h2, h3⟩ := hi k hk
  obtain ⟨ca, cn, cc, xa, xn, xc, rfl, h4, h5⟩ := h1
  exact ⟨b, o, ca, cn, cc, xa, xn, xc, rfl, h3 0 (by simp), h3 1 (by simp), h3 2 (by simp), h4⟩
theorem col1 {Q : Nat → Prop} {w : World} {a : Option Addr} {n c : Nat} {l : List Co} (h : RowIs eCol Q w (.slice a n c) l) {k : Nat} (hk : k < l.length) : ∃ b o, a = some ⟨b, o, none⟩ ∧ w.cell? ⟨b, o + k * 3, none⟩ = some (.string l[k].1) ∧ w.cell? ⟨b, o + k * 3 + 1, none⟩ = some (.int .i64 l[k].2.1) ∧ w.cell? ⟨b, o + k * 3 + 2, none⟩ = some (.string l[k].2.2) := by
  obtain ⟨_, _, _, e, hn, hnc, hc, hx⟩ := h
  cases e
  obtain ⟨b, o, rfl, hq, hi⟩ := hx (by omega)
  obtain ⟨cs, h1, h2, h3⟩ := hi k hk
  have h1' : cs = [.string l[k].1, .int .i64 l[k].2.1, .string l[k].2.2] := h1
  generalize l[k] = x at *
  subst h1'
  exact ⟨b, o, rfl, h3 0 (by simp), h3 1 (by simp), h3 2 (by simp)⟩
set_option maxRecDepth 100000 in
set_option maxHeartbeats 4000000 in
theorem relCols_any {ts : List Tbl} (h2 : ts.length ≤ 2) (hc : ∀ t ∈ ts, t.cols.length ≤ 200) {Q : Nat → Prop} {w : World} {a : Option Addr} {n c : Nat} (h : RowIs eTbl Q w (.slice a n c) ts) :
    Calls Tryz.prog 23 #[.slice a n c] w fun e w' => ∃ v, e = .returned v ∧ OwnR 68 3 w.heap.size w' v ((scP ts).map itC) ∧ Below w.heap.size w w' := by
  obtain ⟨l1, l2, l3⟩ := row_lens h
  have HR : Hid (∀ w', Below w.heap.size w w' → RowIs eTbl (fun b => b < w.heap.size) w' (.slice a n c) ts) := hid fun w' hb => (h.mono (by decide) fun b _ hl => hl).keep (by decide) fun b hq _ => hb.block b hq
  have HC : Hid _ := hid hc
  have hn2 : n ≤ 2 := by omega
  clear h hc
  go_enter Tryz.func23, Tryz.ntmps23
  go_wp2
  go_loopw [3, 10] (fun v3 v10 wr => ∃ (k : Nat) (va : Option Addr) (vm vd : Nat), k ≤ n ∧ v10 = .int .i64 k ∧ v3 = .slice va vm vd ∧ Below w.heap.size w wr ∧ Hid (OwnR 68 3 w.heap.size wr (.slice va vm vd) ((scP (ts.take k)).map itC) ∧ (scP (ts.take k)).length ≤ k * 200)) (fun _ i _ => n - (intOf i).toNat)
  case atStart => exact ⟨0, none, 0, 0, Nat.zero_le _, rfl, rfl, Below.refl _ _, hid ⟨OwnR.nil _ _ _ _, Nat.zero_le _⟩⟩
  case round =>
    obtain ⟨k, va, vm, vd, hk, rfl, rfl, hB, HK⟩ := hrel
    generalize wr = wo at *
    by_cases hlt : k < n
    · obtain ⟨b, o, ca, cn, cc, xa, xn, xc, rfl, t0, t1, t2, rc⟩ := tbl1 (HR.out wo hB) (k := k) (by omega)
      obtain ⟨t, ht⟩ : ∃ t, ts[k]'(by omega) = t := ⟨_, rfl⟩
      have htc := HC.out t (ht ▸ List.getElem_mem _)
      have HTk : Hid (ts.take (k + 1) = ts.take k ++ [t]) := hid (by rw [List.take_succ_eq_append_getElem (by omega), ht])
      rw [ht] at t0 rc
      obtain ⟨p1, p2, p3⟩ := row_lens rc
      have hkm : (k : Int) < (n : Int) := by omega
      have hwk := wrapS hlt l2 l3
      have hB1 := bal hB (.cells #[.string t.name, .slice ca cn cc, .slice xa xn xc] 32)
      have bt := Bk.new wo (.cells #[.string t.name, .slice ca cn cc, .slice xa xn xc] 32)
      have hno : ∀ b, (Value.slice va vm vd).ownBlock = some b → b ≠ wo.heap.size := fun b e => by have := (HK.out.1.blk b e).2; omega
      have HK1 : Hid (OwnR 68 3 w.heap.size (wo.alloc (.cells #[.string t.name, .slice ca cn cc, .slice xa xn xc] 32)) (.slice va vm vd) ((scP (ts.take k) ++ (scT t).take 0).map itC) ∧ (scP (ts.take k)).length ≤ k * 200) := hid ⟨by rw [List.take_zero, List.append_nil]; exact HK.out.1.alloc _, HK.out.2⟩
      have HRC : Hid (∀ w', Below w.heap.size w w' → RowIs eCol (fun b => b < w.heap.size) w' (.slice ca cn cc) t.cols) := hid fun w' hb => rc.keep (by decide) fun b hq _ => (hb.block b hq).trans (hB.block b hq).symm
      have hcn : cn ≤ 200 := by omega
      have HNo : Hid _ := hid hno
      clear rc HK ht hno
      go_upto_region 5 with fail
      generalize wo.alloc (.cells #[.string t.name, .slice ca cn cc, .slice xa xn xc] 32) = W at *
      obtain ⟨qt, hqt⟩ : ∃ q, wo.heap.size = q := ⟨_, rfl⟩
      rw [hqt] at bt HNo
      (try rw [hqt])
      have d0 := bt.cell 0
      have d1 := bt.cell 1
      simp only [List.getElem?_toArray, List.getElem?_cons_zero, List.getElem?_cons_succ] at d0 d1
      have hqw : w.heap.size ≤ qt := by rw [← hqt]; exact hB.size
      clear t0 t1 t2 hqt hB
      go_wp2
      go_loopw [3, 17] (fun v3 v17 wr => ∃ (j : Nat) (va : Option Addr) (vm vd : Nat), j ≤ cn ∧ v17 = .int .i64 j ∧ v3 = .slice va vm vd ∧ Below w.heap.size w wr ∧ Bk wr qt (.cells #[.string t.name, .slice ca cn cc, .slice xa xn xc] 32) ∧ Hid (OwnR 68 3 w.heap.size wr (.slice va vm vd) ((scP (ts.take k) ++ (scT t).take j).map itC) ∧ ∀ b, (Value.slice va vm vd).ownBlock = some b → b ≠ qt)) (fun _ i _ => cn - (intOf i).toNat)
      case atStart => exact ⟨0, va, vm, vd, Nat.zero_le _, rfl, rfl, hB1, bt, hid ⟨HK1.out.1, HNo.out⟩⟩
      case round =>
        obtain ⟨j, ua, um, ud, hj, rfl, rfl, hZ, bz, HJ⟩ := hrel
        clear hB1 bt HNo d0 d1
        by_cases hjc : j < cn
        · obtain ⟨cb, co, rfl, y0, y1, y2⟩ := col1 (HRC.out wr hZ) (k := j) (by omega)
          obtain ⟨y, hy⟩ : ∃ y, t.cols[j]'(by omega) = y := ⟨_, rfl⟩
          have HTj : Hid ((scP (ts.take k) ++ (scT t).take (j + 1)).map itC = (scP (ts.take k) ++ (scT t).take j).map itC ++ [[.int .i64 0, .string t.name, .string y.1]]) := hid (by
            have hl : j < (scT t).length := by rw [scT, List.length_map]; omega
            rw [List.take_succ_eq_append_getElem hl, ← List.append_assoc, List.map_append]
            congr 1
            simp [scT, hy, itC])
          rw [hy] at y0 y1 y2
          obtain ⟨y0n, y1n, y2n⟩ := y
          obtain ⟨C, hC⟩ : ∃ C, (scP (ts.take k) ++ (scT t).take j).map itC = C := ⟨_, rfl⟩
          have hCl : C.length ≤ 1000 := by
            rw [← hC, List.length_map, List.length_append, List.length_take]
            have := HK1.out.2
            omega
          rw [hC] at HTj HJ
          have hjm : (j : Int) < (cn : Int) := by omega
          have hwj := wrapS hjc p2 p3
          have by1 := Bk.new wr (.cells #[.string y0n, .int .i64 y1n, .string y2n] 37)
          have hal := bal (Below.refl _ wr) (.cells #[.string y0n, .int .i64 y1n, .string y2n] 37)
          have bz1 := bz.later hal
          have hZ1 := bal hZ (.cells #[.string y0n, .int .i64 y1n, .string y2n] 37)
          have HO1 : Hid _ := hid (HJ.out.1.alloc (.cells #[.string y0n, .int .i64 y1n, .string y2n] 37))
          clear hC hy bz hal
          go_upto_region 8 with fail
          generalize wr.alloc (.cells #[.string y0n, .int .i64 y1n, .string y2n] 37) = U at *
          have e0 := by1.cell 0
          have d0 := bz1.cell 0
          simp only [List.getElem?_toArray, List.getElem?_cons_zero, List.getElem?_cons_succ] at e0 d0
          have ho5 := HO1.out.alloc (.cells #[.int .i64 0, .string t.name, .string y0n] 68)
          have hZ5 := bal hZ1 (.cells #[.int .i64 0, .string t.name, .string y0n] 68)
          have bz5 := bz1.later (bal (Below.refl _ U) (.cells #[.int .i64 0, .string t.name, .string y0n] 68))
          have hB5 : w.heap.size ≤ (U.alloc (.cells #[.int .i64 0, .string t.name, .string y0n] 68)).heap.size := hZ5.size
          have hqU : qt < U.heap.size := bz1.lt
          have hblk := ho5.blk
          clear by1 y0 y1 y2 bz1 HO1 hZ1
          go_wp2_with (first | (at_builtin; go_must (refine wpList_appR Tryz.underlying58 Tryz.infoTItR rfl (by decide) (by decide) rfl (.tmp 21) (.tmp 27) rfl _ C U.heap.size [.int .i64 0, .string t.name, .string y0n] rfl rfl ho5 rfl (by simp [Value.oneCell']) (new3 U _ _ _ _) hCl hB5 ?_)) | fail)
          intro v' w6 hO6 hg6 hown
          obtain ⟨a6, m6, d6, rfl⟩ := hO6.sl
          have hZ6 := below_grows hZ5 hB5 hg6 fun b e => (hblk b e).1
          have bz6 := bz5.grown hg6 (fun e => HJ.out.2 qt e.symm rfl)
          have HO6 : Hid (OwnR 68 3 w.heap.size w6 (.slice a6 m6 d6) ((scP (ts.take k) ++ (scT t).take (j + 1)).map itC) ∧ ∀ b, (Value.slice a6 m6 d6).ownBlock = some b → b ≠ qt) := hid ⟨by rw [HTj.out]; exact hO6, fun b e => by
            rcases hown with h | h
            · exact HJ.out.2 b (h.symm.trans e)
            · rw [h] at e
              have e' := Option.some.inj e
              omega⟩
          clear hO6 hg6 hown ho5 hblk bz5 hZ5 HTj HJ
          go_wp2
          go_roundw
          case rel => exact ⟨j + 1, a6, m6, d6, by omega, by go_num, rfl, hZ6, bz6, HO6⟩
          case measure => simp only [intOf]; omega
        · obtain rfl : j = cn := by omega
          have HO6 : Hid (OwnR 68 3 w.heap.size wr (.slice ua um ud) ((scP (ts.take (k + 1))).map itC) ∧ (scP (ts.take (k + 1))).length ≤ (k + 1) * 200) := hid (by
            have e : scP (ts.take (k + 1)) = scP (ts.take k) ++ (scT t).take j := by
              have hl : (scT t).take j = scT t := List.take_of_length_le (by unfold scT; rw [List.length_map]; omega)
              rw [HTk.out, scP, List.flatMap_append, hl]
              simp [scP]
            rw [e]
            refine ⟨HJ.out.1, ?_⟩
            rw [List.length_append, List.length_take]
            have := HK1.out.2
            omega)
          clear HJ HK1
          go_wp2
          go_roundw
          case rel => exact ⟨k + 1, ua, um, ud, by omega, by go_num, rfl, hZ, HO6⟩
          case measure => simp only [intOf]; omega
    · obtain rfl : k = n := by omega
      have HO6 : Hid (OwnR 68 3 w.heap.size wo (.slice va vm vd) ((scP ts).map itC)) := hid (by
        have := HK.out.1
        rwa [List.take_of_length_le (by omega)] at this)
      clear HK
      go_wp2
      go_ret
      exact ⟨_, rfl, HO6.out, hB⟩

end Go.Proofs.YtnlaaejdianfjabGreat
