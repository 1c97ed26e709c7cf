import Derived.Test.YtnlaaejdianfjaaGreatQsai
import Derived.Test.YtnlaaejdianfjaaGreatQsak
import Derived.Test.YtnlaaejdianfjaaGreatQsal
import Derived.Deep.AppendSrc
import Derived.Test.YtnlaaejdianfjaaGreatQsah
namespace Go.Proofs.YtnlaaejdianfjaaGreat
open Go.RowKit
set_option linter.unusedVariables false
set_option linter.unusedSimpArgs false

theorem flat_len {k : Nat} : ∀ {l : List (List Value)}, (∀ cs ∈ l, cs.length = k) → l.flatten.length = l.length * k
  | [], _ => by simp
  | a :: l, h => by
    rw [List.flatten_cons, List.length_append, flat_len fun x hx => h x (by simp [hx]), h a (by simp), List.length_cons, Nat.succ_mul]
    omega
theorem run_appU {t ty e : TypeId} {z : Value} {k bytes B : Nat} (ht : Tryz.prog.underlying t = some (.slice e)) (hinf : (Tryz.prog.info? e).map (fun i => (i.zero, i.size, i.bytes)) = some (some z, k, bytes)) (hzs : z.cells.size = k) (hk : 0 < k) (hby : bytes ≤ 1000)
    (w : World) (b n cap : Nat) (ao : Option Addr) (m c : Nat) (css css2 : List (List Value)) (hown : OwnR e k B w (.slice (some ⟨b, 0, none⟩) n cap) css) (hcs : ∀ cs ∈ css2, cs.length = k) (hm : css2.length = m) (h1 : ∀ u ∈ css2.flatten, u.oneCell' = true)
    (hx : ∀ j u, css2.flatten[j]? = some u → ∃ ad, ao = some ad ∧ w.cell? (ad.add j) = some u) (hl : css.length + m ≤ 1000) (hB : B ≤ w.heap.size) :
    ∃ b' n' c' w', (Builtin.append_ #[t, t] ty #[.slice (some ⟨b, 0, none⟩) n cap, .slice ao m c]).run Tryz.prog w = .ok (.slice (some ⟨b', 0, none⟩) n' c') w' ∧ OwnR e k B w' (.slice (some ⟨b', 0, none⟩) n' c') (css ++ css2) ∧ w.grownBy w' (some b) ∧ (b' = b ∨ b' = w.heap.size) := by
  obtain ⟨i, hi, hz, hsz, hb⟩ := info_parts hinf
  have hnc : n ≤ cap := by
    rcases hown.2.2 with ⟨e, _⟩ | ⟨b', cap', cur, e, _, _, hnc, _⟩
    · cases e
    · cases e; exact hnc
  by_cases hm0 : m = 0
  · subst hm0
    obtain rfl : css2 = [] := List.eq_nil_of_length_eq_zero hm
    have hS : Src Tryz.prog i.size t (.slice ao 0 c) 0 [] w := by
      cases ao with
      | none => exact Src.ofNil w ht c
      | some ad => exact Src.ofSlice w ht ad 0 c [] (by simp) (by simp) (by simp)
    have := run_append_room_src w t t ty e i ht hi b 0 n cap (.slice ao 0 c) 0 [] hS (by omega) (fun j hj => absurd hj (by simp)) (fun j hj => absurd hj (by simp))
    exact ⟨_, _, _, _, this, by rw [List.append_nil]; exact hown, ⟨rfl, rfl, rfl, Nat.le_refl _, fun _ _ _ => rfl⟩, .inl rfl⟩
  · have hfl := flat_len hcs
    have hpos : 0 < css2.flatten.length := by rw [hfl, hm]; exact Nat.mul_pos (by omega) hk
    obtain ⟨ad, rfl, -⟩ := hx 0 _ (List.getElem?_eq_getElem hpos)
    obtain ⟨v', w', hr, h2, h3, _, h5⟩ := run_append_own_at (P := Tryz.prog) w B t ty e i z k bytes ht hi hz hsz hb hzs hk _ css.length _ hown.2 ad m c css2.flatten (by rw [hfl, hm])
      (fun j u hj => by obtain ⟨ad', e', hc⟩ := hx j u hj; cases e'; exact hc) h1 (by unfold maxLen; omega) (by have : (css.length + m) * bytes ≤ 1000 * 1000 := Nat.mul_le_mul (by omega) hby; omega) hB
    have hO : OwnR e k B w' v' (css ++ css2) := ⟨fun cs hc => by
      rcases List.mem_append.1 hc with hc | hc
      · exact hown.1 cs hc
      · exact hcs cs hc, by rw [List.length_append, hm, List.flatten_append]; exact h2⟩
    rcases h2.2 with ⟨rfl, h0⟩ | ⟨g, cap', cur, rfl, _⟩
    · omega
    · refine ⟨g, _, cap', w', hr, hO, h3, ?_⟩
      rcases h5 with h5 | h5
      · exact .inl (Option.some.inj h5)
      · exact .inr (Option.some.inj h5)
theorem step_appU {t ety : TypeId} {z : Value} {k bytes B : Nat} {ops : Array Oper} {o : Oper} {a : Act} {w : World} {K : Act → World → Prop} {Q : Exit → Act → World → Prop} {E : Prop}
    (hgd : o.guard = none) (s x : Operand) (ho : o.op = .call { callee := .builtin .append, args := #[s, x], argTypes := #[t, t] })
    (ht : Tryz.prog.underlying t = some (.slice ety)) (hinf : (Tryz.prog.info? ety).map (fun i => (i.zero, i.size, i.bytes)) = some (some z, k, bytes)) (hzs : z.cells.size = k) (hk : 0 < k) (hby : bytes ≤ 1000)
    (b n cap : Nat) (ao : Option Addr) (m c : Nat) (css css2 : List (List Value)) (hs : a.eval s = .slice (some ⟨b, 0, none⟩) n cap) (hxv : a.eval x = .slice ao m c)
    (hown : OwnR ety k B w (.slice (some ⟨b, 0, none⟩) n cap) css) (hcs : ∀ cs ∈ css2, cs.length = k) (hm : css2.length = m) (h1 : ∀ u ∈ css2.flatten, u.oneCell' = true) (hx : ∀ j u, css2.flatten[j]? = some u → ∃ ad, ao = some ad ∧ w.cell? (ad.add j) = some u) (hl : css.length + m ≤ 1000) (hB : B ≤ w.heap.size)
    (h : ∀ b' n' c' w', OwnR ety k B w' (.slice (some ⟨b', 0, none⟩) n' c') (css ++ css2) → w.grownBy w' (some b) → (b' = b ∨ b' = w.heap.size) → K (a.put o.dst (.slice (some ⟨b', 0, none⟩) n' c')) w') :
    if Region.wanted o (yielded ops a.tmps) = true then Oper.wp Tryz.prog o a w K Q else E := by
  have hw : Region.wanted o (yielded ops a.tmps) = true := by simp [Region.wanted, hgd]
  rw [if_pos hw]
  obtain ⟨b', n', c', w', hr, h2, h3, h4⟩ := run_appU ht hinf hzs hk hby w b n cap ao m c css css2 hown hcs hm h1 hx hl hB (ty := o.type)
  unfold Oper.wp execOp
  simp only [ho, resolve, invoke, builtin, Sem.run_bind, Sem.run_pure, Result.andThen_ok, List.map_toArray, List.map_cons, List.map_nil, hs, hxv, hr]
  exact h b' n' c' w' h2 h3 h4
theorem OwnR.keptR {ty k B : Nat} {w w' : World} {b n c : Nat} {css : List (List Value)} (h : OwnR ty k B w (.slice (some ⟨b, 0, none⟩) n c) css) {g : Nat} (hg : w.grownBy w' (some g)) (hne : b ≠ g) : OwnR ty k B w' (.slice (some ⟨b, 0, none⟩) n c) css :=
  ⟨h.1, h.2.kept hg (.inr fun e => hne (Option.some.inj e))⟩
theorem OwnR.at0 {ty k B : Nat} {w : World} {b n c : Nat} {css : List (List Value)} (h : OwnR ty k B w (.slice (some ⟨b, 0, none⟩) n c) css) : B ≤ b ∧ b < w.heap.size := h.blk b rfl
theorem OwnR.lit0 (ty k B : Nat) (w : World) (hB : B ≤ w.heap.size) : OwnR ty k B (w.alloc (.cells #[] ty)) (.slice (some ⟨w.heap.size, 0, none⟩) 0 0) [] := ⟨fun c hc => by simp at hc, by simp, .inr ⟨w.heap.size, 0, #[], rfl, hB, heap_alloc_new w _, Nat.le_refl _, by simp [maxLen], by simp, by simp⟩⟩
theorem cVs_one (x : List Vt) : ∀ cs ∈ x.map cVs, cs.length = 3 := by
  intro cs h
  obtain ⟨z, _, rfl⟩ := List.mem_map.1 h
  rfl
theorem cVs_cell (x : List Vt) : ∀ u ∈ (x.map cVs).flatten, u.oneCell' = true := by
  intro u h
  obtain ⟨cs, h1, h2⟩ := List.mem_flatten.1 h
  obtain ⟨z, _, rfl⟩ := List.mem_map.1 h1
  rcases List.mem_cons.1 h2 with rfl | h2
  · rfl
  · rcases List.mem_cons.1 h2 with rfl | h2
    · rfl
    · rw [List.mem_singleton] at h2; subst h2; rfl
theorem cVs_src {Q : Nat → Prop} {w : World} {a : Option Addr} {n c : Nat} {x : List Vt} (h : RowIs eVal Q w (.slice a n c) x) : ∀ j u, (x.map cVs).flatten[j]? = some u → ∃ ad, a = some ad ∧ w.cell? (ad.add j) = some u := by
  intro j u hj
  have hl := flat_len (cVs_one x)
  rw [List.length_map] at hl
  have hjl : j < x.length * 3 := by rw [← hl]; exact (List.getElem?_eq_some_iff.1 hj).1
  have hi : j / 3 < x.length := by omega
  have hf := flat_at (k := 3) (cVs_one x) (i := j / 3) (j := j % 3) (by rw [List.length_map]; exact hi) (by omega)
  rw [show j / 3 * 3 + j % 3 = j from by omega, hj, List.getElem_map] at hf
  obtain ⟨b, o, rfl, -, c0, c1, c2⟩ := val1 h hi
  refine ⟨_, rfl, ?_⟩
  rw [show (⟨b, o, none⟩ : Addr).add j = ⟨b, o + j, none⟩ from by simp [Addr.add]]
  have h3 : j % 3 = 0 ∨ j % 3 = 1 ∨ j % 3 = 2 := by omega
  rcases h3 with h3 | h3 | h3
  · rw [h3] at hf
    have e : o + j = o + j / 3 * 3 := by omega
    rw [e, c0, hf]; rfl
  · rw [h3] at hf
    have e : o + j = o + j / 3 * 3 + 1 := by omega
    rw [e, c1, hf]; rfl
  · rw [h3] at hf
    have e : o + j = o + j / 3 * 3 + 2 := by omega
    rw [e, c2, hf]; rfl
theorem zC_src {w : World} {a : Option Addr} {Z : List Zt} (h : ∀ i z, Z[i]? = some z → ∃ b o, a = some ⟨b, o, none⟩ ∧ w.cell? ⟨b, o + i, none⟩ = some (slV z.1)) (P : Nat) : ∀ j u, (zC (Z.take P)).flatten[j]? = some u → ∃ ad, a = some ad ∧ w.cell? (ad.add j) = some u := by
  intro j u hj
  rw [zC_flat, List.getElem?_map] at hj
  obtain ⟨z, hz, rfl⟩ := Option.map_eq_some_iff.1 hj
  have hz' : Z[j]? = some z := by
    rw [List.getElem?_take] at hz
    split at hz
    · exact hz
    · cases hz
  obtain ⟨b, o, rfl, hc⟩ := h j z hz'
  exact ⟨_, rfl, by rw [show (⟨b, o, none⟩ : Addr).add j = ⟨b, o + j, none⟩ from by simp [Addr.add]]; exact hc⟩
theorem zC_src2 {w : World} {a a2 : Option Addr} {Z : List Zt} (h : ∀ i z, Z[i]? = some z → ∃ b o, a = some ⟨b, o, none⟩ ∧ w.cell? ⟨b, o + i, none⟩ = some (slV z.1)) (P : Nat) (ha : P < Z.length → a2 = a.map (·.add P)) : ∀ j u, (zC (Z.drop P)).flatten[j]? = some u → ∃ ad, a2 = some ad ∧ w.cell? (ad.add j) = some u := by
  intro j u hj
  rw [zC_flat, List.getElem?_map] at hj
  obtain ⟨z, hz, rfl⟩ := Option.map_eq_some_iff.1 hj
  rw [List.getElem?_drop] at hz
  obtain ⟨b, o, rfl, hc⟩ := h (P + j) z hz
  have hlt := (List.getElem?_eq_some_iff.1 hz).1
  refine ⟨_, ha (by omega), ?_⟩
  rw [show ((⟨b, o, none⟩ : Addr).add P).add j = ⟨b, o + (P + j), none⟩ from by rw [addV_off, addV_off, Nat.add_assoc]]
  exact hc
set_option maxRecDepth 100000 in
theorem slice_rowsTo {ao : Option Addr} {n c k : Nat} (hk : k ≤ n) (hc : n ≤ c) (hm : c ≤ 9223372036854775807) (w' : World) : (Instr.slice 36 (.slice ao n c) none (some (.int .i64 (k : Int))) none).run Tryz.prog w' = .ok (.slice ao k c) w' := by
  have g2 : ¬ (c : Int) < (k : Int) := by omega
  have g3 : (k : Int) ≤ (c : Int) := by omega
  cases ao with
  | none => go_simp
  | some a => go_simp
set_option maxRecDepth 100000 in
theorem slice_rowsFrom {ao : Option Addr} {n c k : Nat} (hk : k ≤ n) (hc : n ≤ c) (hm : c ≤ 9223372036854775807) (w' : World) : (Instr.slice 36 (.slice ao n c) (some (.int .i64 (k : Int))) none none).run Tryz.prog w' = .ok (.slice (if c = k then ao else ao.map (·.add (k * 1))) (n - k) (c - k)) w' := by
  have g2 : k ≤ c := by omega
  have g3 : (k : Int) ≤ (n : Int) := by omega
  have g4 : (n : Int) ≤ (c : Int) := by omega
  have g5 : ¬ (n : Int) < (k : Int) := by omega
  cases ao with
  | none => go_simp
  | some a => go_simp

theorem zC_app (A B : List Zt) : zC (A ++ B) = zC A ++ zC B := List.map_append ..
/-- A row put among rows. -/
theorem rows_put {y0 y : World} (hY : Below y0.heap.size y0 y) {Z : List Zt} {P : Nat} {x : List Vt} {bX nX cX b n c : Nat} {R : List (List Vt)} (hZr : ∀ z ∈ Z, RowIs eVal (fun _ => True) y0 (slV z.1) z.2) (hX : OwnR 44 3 y0.heap.size y (.slice (some ⟨bX, 0, none⟩) nX cX) ([] ++ x.map cVs))
    (hO : OwnR 42 1 y0.heap.size y (.slice (some ⟨b, 0, none⟩) n c) ((([] ++ zC (Z.take P)) ++ zC [((some ⟨bX, 0, none⟩, nX, cX), x)]) ++ zC (Z.drop P))) (hm : Z.map (·.2) = R) : n = R.length + 1 ∧ RowIs eRow (fun _ => True) y (.slice (some ⟨b, 0, none⟩) n c) (R.take P ++ x :: R.drop P) := by
  rw [List.nil_append, ← zC_app, ← zC_app] at hO
  have hl := hO.lenV
  rw [zC_len] at hl
  have hx : RowIs eVal (fun _ => True) y (.slice (some ⟨bX, 0, none⟩) nX cX) x := OwnR.rowE (e := eVal) hX (by simp) (fun _ _ _ => trivial) fun i h1 h2 => by
    show _ = _
    simp [cVs]
  have hlen : (Z.take P ++ ([((some ⟨bX, 0, none⟩, nX, cX), x)] : List Zt) ++ Z.drop P).length = R.length + 1 := by
    rw [← hm]
    simp only [List.length_append, List.length_map, List.length_cons, List.length_nil, List.length_take, List.length_drop]
    omega
  have hn : n = R.length + 1 := by omega
  obtain ⟨g, hg, -, -, hG, hnc, hcm⟩ := hO.rowG (by omega)
  cases hg
  refine ⟨hn, ?_⟩
  have := rowZ_of (by omega) hnc hcm hG fun z hz => by
    rcases List.mem_append.1 hz with hz | hz
    · rcases List.mem_append.1 hz with hz | hz
      · exact (hZr z (List.mem_of_mem_take hz)).keep (by decide) fun b _ hl => hY.block b hl
      · rw [List.mem_singleton] at hz; subst hz; exact hx
    · exact (hZr z (List.mem_of_mem_drop hz)).keep (by decide) fun b _ hl => hY.block b hl
  rw [List.map_append, List.map_append, List.map_take, List.map_drop, hm, List.append_assoc] at this
  exact this
theorem lit_src {y : World} {bL bX nX cX : Nat} {x : List Vt} (kL : Bk y bL (.cells #[.slice (some ⟨bX, 0, none⟩) nX cX] 42)) : ∀ j u, (zC [((some ⟨bX, 0, none⟩, nX, cX), x)]).flatten[j]? = some u → ∃ ad, (some ⟨bL, 0, none⟩ : Option Addr) = some ad ∧ y.cell? (ad.add j) = some u := by
  intro j u hj
  refine ⟨_, rfl, ?_⟩
  rw [addV_off, Nat.zero_add, kL.cell j]
  cases j with
  | zero => exact hj
  | succ j => simp [zC] at hj
theorem value_of {s : Sem Value} {v : Value} {w : World} (h : s.run Tryz.prog w = .ok v w) : ((do pure (Next.value (← s))) : Sem Next).run Tryz.prog w = .ok (.value v) w := by
  simp only [Sem.run_bind, h, Result.andThen_ok, Sem.run_pure]
theorem slice_fromX {ao : Option Addr} {n c k : Nat} (hk : k ≤ n) (hc : n ≤ c) (hm : c ≤ 9223372036854775807) : ∃ a2 m2 d2, (k < n → a2 = ao.map (·.add k)) ∧ m2 = n - k ∧ ∀ w' : World, (Instr.slice 36 (.slice ao n c) (some (.int .i64 (k : Int))) none none).run Tryz.prog w' = .ok (.slice a2 m2 d2) w' :=
  ⟨_, _, _, fun h => by rw [if_neg (by omega), Nat.mul_one], rfl, fun w' => slice_rowsFrom hk hc hm w'⟩

end Go.Proofs.YtnlaaejdianfjaaGreat
namespace Go.Proofs.YtnlaaejdianfjaaGreat
open Go.RowKit
set_option linter.unusedVariables false
set_option linter.unusedSimpArgs false

theorem Tryz.infoTItR : (Tryz.prog.info? 50).map (fun i => (i.zero, i.size, i.bytes)) = some (some (.agg #[.int .i64 0, .string ⟨#[]⟩, .string ⟨#[]⟩]), 3, 40) := by kernel_rfl
/-- All columns of these tables, each with its table's name. -/
def scT (t : Tbl) : List It := t.cols.map fun c => (0, t.name, c.1)
def scP (ts : List Tbl) : List It := ts.flatMap scT
theorem tbl1 {Q : Nat → Prop} {w : World} {a : Option Addr} {n c : Nat} {l : List Tbl} (h : RowIs eTbl Q w (.slice a n c) l) {k : Nat} (hk : k < l.length) : ∃ b o ca cn cc xa xn xc, a = some ⟨b, o, none⟩ ∧ w.cell? ⟨b, o + k * 3, none⟩ = some (.string l[k].name) ∧ w.cell? ⟨b, o + k * 3 + 1, none⟩ = some (.slice ca cn cc) ∧ w.cell? ⟨b, o + k * 3 + 2, none⟩ = some (.slice xa xn xc) ∧ RowIs eCol Q w (.slice ca cn cc) l[k].cols := by
  obtain ⟨_, _, _, e, hn, hnc, hc, hx⟩ := h
  cases e
  obtain ⟨b, o, rfl, hq, hi⟩ := hx (by omega)
  obtain ⟨cs, h1, h2, h3⟩ := hi k hk
  obtain ⟨ca, cn, cc, xa, xn, xc, rfl, h4, h5⟩ := h1
  exact ⟨b, o, ca, cn, cc, xa, xn, xc, rfl, h3 0 (by simp), h3 1 (by simp), h3 2 (by simp), h4⟩
theorem col1 {Q : Nat → Prop} {w : World} {a : Option Addr} {n c : Nat} {l : List Co} (h : RowIs eCol Q w (.slice a n c) l) {k : Nat} (hk : k < l.length) : ∃ b o, a = some ⟨b, o, none⟩ ∧ w.cell? ⟨b, o + k * 3, none⟩ = some (.string l[k].1) ∧ w.cell? ⟨b, o + k * 3 + 1, none⟩ = some (.int .i64 l[k].2.1) ∧ w.cell? ⟨b, o + k * 3 + 2, none⟩ = some (.string l[k].2.2) := by
  obtain ⟨_, _, _, e, hn, hnc, hc, hx⟩ := h
  cases e
  obtain ⟨b, o, rfl, hq, hi⟩ := hx (by omega)
  obtain ⟨cs, h1, h2, h3⟩ := hi k hk
  have h1' : cs = [.string l[k].1, .int .i64 l[k].2.1, .string l[k].2.2] := h1
  generalize l[k] = x at *
  subst h1'
  exact ⟨b, o, rfl, h3 0 (by simp), h3 1 (by simp), h3 2 (by simp)⟩
set_option maxRecDepth 100000 in
set_option maxHeartbeats 4000000 in
theorem relCols_any {ts : List Tbl} (h2 : ts.length ≤ 2) (hc : ∀ t ∈ ts, t.cols.length ≤ 200) {Q : Nat → Prop} {w : World} {a : Option Addr} {n c : Nat} (h : RowIs eTbl Q w (.slice a n c) ts) :
    Calls Tryz.prog 57 #[.slice a n c] w fun e w' => ∃ v, e = .returned v ∧ OwnR 50 3 w.heap.size w' v ((scP ts).map itC) ∧ Below w.heap.size w w' := by
  obtain ⟨l1, l2, l3⟩ := row_lens h
  have HR : Hid (∀ w', Below w.heap.size w w' → RowIs eTbl (fun b => b < w.heap.size) w' (.slice a n c) ts) := hid fun w' hb => (h.mono (by decide) fun b _ hl => hl).keep (by decide) fun b hq _ => hb.block b hq
  have HC : Hid _ := hid hc
  have hn2 : n ≤ 2 := by omega
  clear h hc
  go_enter Tryz.func57, Tryz.ntmps57
  go_wp2
  go_loopw [3, 10] (fun v3 v10 wr => ∃ (k : Nat) (va : Option Addr) (vm vd : Nat), k ≤ n ∧ v10 = .int .i64 k ∧ v3 = .slice va vm vd ∧ Below w.heap.size w wr ∧ Hid (OwnR 50 3 w.heap.size wr (.slice va vm vd) ((scP (ts.take k)).map itC) ∧ (scP (ts.take k)).length ≤ k * 200)) (fun _ i _ => n - (intOf i).toNat)
  case atStart => exact ⟨0, none, 0, 0, Nat.zero_le _, rfl, rfl, Below.refl _ _, hid ⟨OwnR.nil _ _ _ _, Nat.zero_le _⟩⟩
  case round =>
    obtain ⟨k, va, vm, vd, hk, rfl, rfl, hB, HK⟩ := hrel
    generalize wr = wo at *
    by_cases hlt : k < n
    · obtain ⟨b, o, ca, cn, cc, xa, xn, xc, rfl, t0, t1, t2, rc⟩ := tbl1 (HR.out wo hB) (k := k) (by omega)
      obtain ⟨t, ht⟩ : ∃ t, ts[k]'(by omega) = t := ⟨_, rfl⟩
      have htc := HC.out t (ht ▸ List.getElem_mem _)
      have HTk : Hid (ts.take (k + 1) = ts.take k ++ [t]) := hid (by rw [List.take_succ_eq_append_getElem (by omega), ht])
      rw [ht] at t0 rc
      obtain ⟨p1, p2, p3⟩ := row_lens rc
      have hkm : (k : Int) < (n : Int) := by omega
      have hwk := wrapS hlt l2 l3
      have hB1 := bal hB (.cells #[.string t.name, .slice ca cn cc, .slice xa xn xc] 33)
      have bt := Bk.new wo (.cells #[.string t.name, .slice ca cn cc, .slice xa xn xc] 33)
      have hno : ∀ b, (Value.slice va vm vd).ownBlock = some b → b ≠ wo.heap.size := fun b e => by have := (HK.out.1.blk b e).2; omega
      have HK1 : Hid (OwnR 50 3 w.heap.size (wo.alloc (.cells #[.string t.name, .slice ca cn cc, .slice xa xn xc] 33)) (.slice va vm vd) ((scP (ts.take k) ++ (scT t).take 0).map itC) ∧ (scP (ts.take k)).length ≤ k * 200) := hid ⟨by rw [List.take_zero, List.append_nil]; exact HK.out.1.alloc _, HK.out.2⟩
      have HRC : Hid (∀ w', Below w.heap.size w w' → RowIs eCol (fun b => b < w.heap.size) w' (.slice ca cn cc) t.cols) := hid fun w' hb => rc.keep (by decide) fun b hq _ => (hb.block b hq).trans (hB.block b hq).symm
      have hcn : cn ≤ 200 := by omega
      have HNo : Hid _ := hid hno
      clear rc HK ht hno
      go_upto_region 5 with fail
      generalize wo.alloc (.cells #[.string t.name, .slice ca cn cc, .slice xa xn xc] 33) = W at *
      obtain ⟨qt, hqt⟩ : ∃ q, wo.heap.size = q := ⟨_, rfl⟩
      rw [hqt] at bt HNo
      (try rw [hqt])
      have d0 := bt.cell 0
      have d1 := bt.cell 1
      simp only [List.getElem?_toArray, List.getElem?_cons_zero, List.getElem?_cons_succ] at d0 d1
      have hqw : w.heap.size ≤ qt := by rw [← hqt]; exact hB.size
      clear t0 t1 t2 hqt hB
      go_wp2
      go_loopw [3, 17] (fun v3 v17 wr => ∃ (j : Nat) (va : Option Addr) (vm vd : Nat), j ≤ cn ∧ v17 = .int .i64 j ∧ v3 = .slice va vm vd ∧ Below w.heap.size w wr ∧ Bk wr qt (.cells #[.string t.name, .slice ca cn cc, .slice xa xn xc] 33) ∧ Hid (OwnR 50 3 w.heap.size wr (.slice va vm vd) ((scP (ts.take k) ++ (scT t).take j).map itC) ∧ ∀ b, (Value.slice va vm vd).ownBlock = some b → b ≠ qt)) (fun _ i _ => cn - (intOf i).toNat)
      case atStart => exact ⟨0, va, vm, vd, Nat.zero_le _, rfl, rfl, hB1, bt, hid ⟨HK1.out.1, HNo.out⟩⟩
      case round =>
        obtain ⟨j, ua, um, ud, hj, rfl, rfl, hZ, bz, HJ⟩ := hrel
        clear hB1 bt HNo d0 d1
        by_cases hjc : j < cn
        · obtain ⟨cb, co, rfl, y0, y1, y2⟩ := col1 (HRC.out wr hZ) (k := j) (by omega)
          obtain ⟨y, hy⟩ : ∃ y, t.cols[j]'(by omega) = y := ⟨_, rfl⟩
          have HTj : Hid ((scP (ts.take k) ++ (scT t).take (j + 1)).map itC = (scP (ts.take k) ++ (scT t).take j).map itC ++ [[.int .i64 0, .string t.name, .string y.1]]) := hid (by
            have hl : j < (scT t).length := by rw [scT, List.length_map]; omega
            rw [List.take_succ_eq_append_getElem hl, ← List.append_assoc, List.map_append]
            congr 1
            simp [scT, hy, itC])
          rw [hy] at y0 y1 y2
          obtain ⟨y0n, y1n, y2n⟩ := y
          obtain ⟨C, hC⟩ : ∃ C, (scP (ts.take k) ++ (scT t).take j).map itC = C := ⟨_, rfl⟩
          have hCl : C.length ≤ 1000 := by
            rw [← hC, List.length_map, List.length_append, List.length_take]
            have := HK1.out.2
            omega
          rw [hC] at HTj HJ
          have hjm : (j : Int) < (cn : Int) := by omega
          have hwj := wrapS hjc p2 p3
          have by1 := Bk.new wr (.cells #[.string y0n, .int .i64 y1n, .string y2n] 70)
          have hal := bal (Below.refl _ wr) (.cells #[.string y0n, .int .i64 y1n, .string y2n] 70)
          have bz1 := bz.later hal
          have hZ1 := bal hZ (.cells #[.string y0n, .int .i64 y1n, .string y2n] 70)
          have HO1 : Hid _ := hid (HJ.out.1.alloc (.cells #[.string y0n, .int .i64 y1n, .string y2n] 70))
          clear hC hy bz hal
          go_upto_region 8 with fail
          generalize wr.alloc (.cells #[.string y0n, .int .i64 y1n, .string y2n] 70) = U at *
          have e0 := by1.cell 0
          have d0 := bz1.cell 0
          simp only [List.getElem?_toArray, List.getElem?_cons_zero, List.getElem?_cons_succ] at e0 d0
          have ho5 := HO1.out.alloc (.cells #[.int .i64 0, .string t.name, .string y0n] 50)
          have hZ5 := bal hZ1 (.cells #[.int .i64 0, .string t.name, .string y0n] 50)
          have bz5 := bz1.later (bal (Below.refl _ U) (.cells #[.int .i64 0, .string t.name, .string y0n] 50))
          have hB5 : w.heap.size ≤ (U.alloc (.cells #[.int .i64 0, .string t.name, .string y0n] 50)).heap.size := hZ5.size
          have hqU : qt < U.heap.size := bz1.lt
          have hblk := ho5.blk
          clear by1 y0 y1 y2 bz1 HO1 hZ1
          go_wp2_with (first | (at_builtin; go_must (refine wpList_appR Tryz.underlying80 Tryz.infoTItR rfl (by decide) (by decide) rfl (.tmp 21) (.tmp 27) rfl _ C U.heap.size [.int .i64 0, .string t.name, .string y0n] rfl rfl ho5 rfl (by simp [Value.oneCell']) (new3 U _ _ _ _) hCl hB5 ?_)) | fail)
          intro v' w6 hO6 hg6 hown
          obtain ⟨a6, m6, d6, rfl⟩ := hO6.sl
          have hZ6 := below_grows hZ5 hB5 hg6 fun b e => (hblk b e).1
          have bz6 := bz5.grown hg6 (fun e => HJ.out.2 qt e.symm rfl)
          have HO6 : Hid (OwnR 50 3 w.heap.size w6 (.slice a6 m6 d6) ((scP (ts.take k) ++ (scT t).take (j + 1)).map itC) ∧ ∀ b, (Value.slice a6 m6 d6).ownBlock = some b → b ≠ qt) := hid ⟨by rw [HTj.out]; exact hO6, fun b e => by
            rcases hown with h | h
            · exact HJ.out.2 b (h.symm.trans e)
            · rw [h] at e
              have e' := Option.some.inj e
              omega⟩
          clear hO6 hg6 hown ho5 hblk bz5 hZ5 HTj HJ
          go_wp2
          go_roundw
          case rel => exact ⟨j + 1, a6, m6, d6, by omega, by go_num, rfl, hZ6, bz6, HO6⟩
          case measure => simp only [intOf]; omega
        · obtain rfl : j = cn := by omega
          have HO6 : Hid (OwnR 50 3 w.heap.size wr (.slice ua um ud) ((scP (ts.take (k + 1))).map itC) ∧ (scP (ts.take (k + 1))).length ≤ (k + 1) * 200) := hid (by
            have e : scP (ts.take (k + 1)) = scP (ts.take k) ++ (scT t).take j := by
              have hl : (scT t).take j = scT t := List.take_of_length_le (by unfold scT; rw [List.length_map]; omega)
              rw [HTk.out, scP, List.flatMap_append, hl]
              simp [scP]
            rw [e]
            refine ⟨HJ.out.1, ?_⟩
            rw [List.length_append, List.length_take]
            have := HK1.out.2
            omega)
          clear HJ HK1
          go_wp2
          go_roundw
          case rel => exact ⟨k + 1, ua, um, ud, by omega, by go_num, rfl, hZ, HO6⟩
          case measure => simp only [intOf]; omega
    · obtain rfl : k = n := by omega
      have HO6 : Hid (OwnR 50 3 w.heap.size wo (.slice va vm vd) ((scP ts).map itC)) := hid (by
        have := HK.out.1
        rwa [List.take_of_length_le (by omega)] at this)
      clear HK
      go_wp2
      go_ret
      exact ⟨_, rfl, HO6.out, hB⟩

end Go.Proofs.YtnlaaejdianfjaaGreat
