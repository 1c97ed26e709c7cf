import Derived.Test.YtmfoenhbldacfaaQax
/- slices.AppendSeq, slices.Collect of keys. -/
namespace Go.Proofs.Ytmfoenhbldacfaa
open Go.RowKit Go.Shelf
set_option linter.unusedVariables false
set_option linter.unusedSimpArgs false
attribute [local go_sem] Oper.semAt_some

/-- A row of numbers of the call's own. -/
def OwnU (B : Nat) (w : World) (v : Value) (l : List Int) : Prop := w.ownsRow B 28 1 v l.length (l.map (Value.int .u64))
theorem infoU : (Try.prog.info? 28).map (fun i => (i.zero, i.size, i.bytes)) = some (some (.int .u64 0), 1, 8) := by kernel_rfl
theorem OwnU.nil (B : Nat) (w : World) : OwnU B w (.slice none 0 0) [] := World.ownsRow_nil w B 28 1
theorem OwnU.cellsE {B : Nat} {w : World} {v : Value} {l : List Int} (h : OwnU B w v l) : ∃ ao c, v = .slice ao l.length c ∧ l.length ≤ c ∧ c ≤ 9223372036854775807 := by
  rcases h.2 with ⟨rfl, h0⟩ | ⟨g, cap, cur, rfl, _, _, h4, h5, _⟩
  · exact ⟨none, 0, by rw [h0], by omega, by omega⟩
  · exact ⟨_, cap, rfl, h4, by simpa [maxLen] using h5⟩
theorem OwnU.keep {B : Nat} {w w' : World} {v : Value} {l : List Int} (h : OwnU B w v l) (k : ∀ g A, B ≤ g → w.heap[g]? = some (.cells A 28 (0, 0)) → w'.heap[g]? = w.heap[g]?) : OwnU B w' v l := by
  refine ⟨h.1, ?_⟩
  rcases h.2 with h0 | ⟨g, cap, cur, h1, h2, h3, r⟩
  · exact .inl h0
  · exact .inr ⟨g, cap, cur, h1, h2, by rw [k g _ h2 h3]; exact h3, r⟩
theorem run_appU {w : World} {B : Nat} {v : Value} {l : List Int} {g : Nat} {x : Int} (ty : TypeId) (hown : OwnU B w v l) (hx : w.cell? ⟨g, 0, none⟩ = some (.int .u64 x)) (hl : l.length ≤ 1000) (hB : B ≤ w.heap.size) :
    ∃ v' w', (Builtin.append_ #[26, 26] ty #[v, .slice (some ⟨g, 0, none⟩) 1 1]).run Try.prog w = .ok v' w' ∧ OwnU B w' v' (l ++ [x]) ∧ w.grownBy w' v.ownBlock := by
  obtain ⟨i, hi, hz, hsz, hb⟩ := info_parts infoU
  obtain ⟨v', w', hr, h2, h3, _, _⟩ := run_append_own_at (P := Try.prog) w B 26 ty 28 i _ 1 8 Try.underlying26 hi hz hsz hb rfl (by omega) v l.length _ hown ⟨g, 0, none⟩ 1 1 [.int .u64 x] rfl
    (fun j u e => by
      cases j with
      | zero => simp at e; subst e; rw [add_at]; exact hx
      | succ j => simp at e)
    (by intro u hu; rw [List.mem_singleton] at hu; subst hu; rfl) (by unfold maxLen; omega) (by omega) hB
  refine ⟨v', w', hr, ?_, h3⟩
  unfold OwnU
  rw [List.length_append, List.map_append]
  exact h2
theorem wpListIn_app2 {F : Fence} {nn : Nat} {w w' : World} {ops : Array Oper} {rest : List Oper} {o : Oper} {a : Act} {Q : Exit → Act → World → Prop} {v : Value} (hgd : o.guard = none) (s x : Operand) (t t' : TypeId) (ho : o.op = .call { callee := .builtin .append, args := #[s, x], argTypes := #[t, t'] }) {u y : Value} (hs : a.eval s = u) (hx : a.eval x = y)
    (hr : (Builtin.append_ #[t, t'] o.type #[u, y]).run Try.prog w = .ok v w') (h : wpListIn F nn Try.prog ops Q rest (a.put o.dst v) w') : wpListIn F nn Try.prog ops Q (o :: rest) a w :=
  wpListIn_plain hgd fun _ hK => by
    unfold Oper.wpIn
    refine ⟨?_, ?_⟩
    · simp [Oper.about, ho, resolve, Target.leads, Sem.run_pure]
    · rw [Oper.semAt_plain F _ _ (by rw [ho]; intro c hc'; cases hc')]
      simp [execOp, ho, resolve, invoke, builtin, hs, hx, hr, Result.andThen]
      exact hK _ _ h

set_option maxRecDepth 100000 in
set_option maxHeartbeats 2000000 in
theorem appendSeq_any {w : World} {gf : Nat} {lb : Array Value} {Ks : List Int} (eg : ∀ args w, (callFunc gf args).run Try.prog w = .ok (.enter gf args) w) (hl : Ks.length ≤ 900) (hs : SeqS Try.prog gf lb (AK Ks) [] (fun s => ∀ x ∈ Ks, x ∈ s) w) :
    Calls Try.prog 62 #[.slice none 0 0, .func (.func gf) #[] lb] w fun e w' => (∃ v l, e = .returned v ∧ OwnU w.heap.size w' v l ∧ l.Nodup ∧ ∀ x, x ∈ l ↔ x ∈ Ks) ∧ Below w.heap.size w w' := by
  have hw : Below w.heap.size w (w.alloc (.cells #[.slice none 0 0] 26)) := (Below.refl _ _).alloc (Nat.le_refl _) _
  have b0 : (w.alloc (.cells #[.slice none 0 0] 26)).heap[w.heap.size]? = some (.cells #[.slice none 0 0] 26 (0, 0)) := heap_alloc_last w _
  have hsz : (w.alloc (.cells #[.slice none 0 0] 26)).heap.size = w.heap.size + 1 := by simp
  refine (callsIn_wide (n := 0)).1 (callsIn_of_wp_marks Try.func62 rfl trivial ?_ rfl)
  simp only [Try.ntmps62, List.size_toArray, List.length_cons, List.length_nil, Nat.reduceAdd, Nat.reduceSub, Array.replicate_succ, Array.replicate_zero, List.push_toArray, List.append_toArray, List.nil_append, List.cons_append]
  gi_wp2
  generalize (w.alloc (.cells #[.slice none 0 0] 26)) = WX at *
  obtain ⟨q, hq⟩ : ∃ q, w.heap.size = q := ⟨_, rfl⟩
  have hw' : Below q w WX := hq ▸ hw
  rw [hq] at b0 hsz
  (try rw [hq])
  have hI0 : Hid (OwnU (q + 1) WX (.slice none 0 0) []) := hid (OwnU.nil _ _)
  refine range_s (gf := gf) (lb := lb) (A := AK Ks) (s0 := []) (Fi := fun s => ∀ x ∈ Ks, x ∈ s) (w0 := w) rfl eg hs hw (fun h _ _ => ⟨h, by obtain ⟨x, rfl, _⟩ := h; rfl⟩)
    (fun told V => ∃ v, V.heap[q]? = some (.cells #[v] 26 (0, 0)) ∧ OwnU (q + 1) V v told ∧ told.Nodup ∧ (∀ x ∈ told, x ∈ Ks) ∧ WX.heap.size ≤ V.heap.size ∧ Below q w V)
    (fun _ _ _ => False)
    ⟨_, b0, hI0.out, List.nodup_nil, (fun x h => by cases h), Nat.le_refl _, hw'⟩
    (fun xs => { tmps := #[.slice none 0 0, .func (.func gf) #[] lb, .pointer (some ⟨q, 0, none⟩), undef, .slice none 0 0, xs[0]!, .func (.func gf) #[] lb, xs[0]!, undef, undef, undef, undef, undef], defers := [] }) ?has ?bo ?done ?stop
  case has =>
    rintro l2 xs W2 K ⟨k, k', s, V, x, rfl, -, -, -⟩ hK
    gi_wp2
    exact hK
  case bo =>
    rintro l2 told told' V Wr xs ⟨v, hb0, hO, hnd, hin, hVs, hbV⟩ hG hbW ⟨x, rfl, hx, hnt, rfl⟩
    have hrow : ∀ g, v.ownBlock = some g → q + 1 ≤ g ∧ ∃ A, V.heap[g]? = some (.cells A 28 (0, 0)) := fun g hg => by
      rcases hO.2 with ⟨rfl, _⟩ | ⟨g', cap, cur, rfl, h2, h3, _⟩
      · cases hg
      · cases hg; exact ⟨h2, _, h3⟩
    have hO1 : OwnU (q + 1) Wr v told := hO.keep fun g A _ e => (hG.block g _ e (.inr rfl)).trans e.symm
    have hb1 : Wr.heap[q]? = some (.cells #[v] 26 (0, 0)) := hG.block q _ hb0 (.inr rfl)
    have hbl : Below Wr.heap.size Wr (Wr.alloc (.cells #[.int .u64 x] 28)) := (Below.refl _ _).alloc (Nat.le_refl _) _
    have hql : q < Wr.heap.size := (Array.getElem?_eq_some_iff.1 hb1).1
    have hO2 : OwnU (q + 1) (Wr.alloc (.cells #[.int .u64 x] 28)) v told := hO1.keep fun g A _ e => hbl.block g (Array.getElem?_eq_some_iff.1 e).1
    have hc : (Wr.alloc (.cells #[.int .u64 x] 28)).cell? ⟨Wr.heap.size, 0, none⟩ = some (.int .u64 x) := cell_of_row _ _ _ _ _ _ (heap_alloc_last Wr _)
    have htl : told.length ≤ 1000 := by have := nodup_le hnd hin; omega
    obtain ⟨v', w6, hr, hO6, hg6⟩ := run_appU 26 hO2 hc htl (by have := hbl.size; omega)
    obtain ⟨a, c, rfl, _⟩ := hO.cellsE
    obtain ⟨a6, c6, rfl, _⟩ := hO6.cellsE
    have hrow2 : ∀ g, (Value.slice a told.length c).ownBlock = some g → q + 1 ≤ g ∧ ∃ A, (Wr.alloc (.cells #[.int .u64 x] 28)).heap[g]? = some (.cells A 28 (0, 0)) := fun g hg => by
      obtain ⟨h1, A, h2⟩ := hrow g hg
      have h3 := hG.block g _ h2 (.inr rfl)
      exact ⟨h1, A, (hbl.block g (Array.getElem?_eq_some_iff.1 h3).1).trans h3⟩
    have hb6 : w6.heap[q]? = some (.cells #[.slice a told.length c] 26 (0, 0)) := by
      rw [hg6.block q (by have := hbl.size; omega) (fun e => by have := (hrow2 q e.symm).1; omega), hbl.block q hql]; exact hb1
    have c6' : w6.cell? ⟨q, 0, none⟩ = some (.slice a told.length c) := cell_of_row _ _ _ _ _ _ hb6
    have f6 : w6.frozen? ⟨q, 0, none⟩ = false := by unfold World.frozen?; rw [hb6]; rfl
    have c1 : Wr.cell? ⟨q, 0, none⟩ = some (.slice a told.length c) := cell_of_row _ _ _ _ _ _ hb1
    have hkp : Kps q WX.heap.size Wr (w6.setCell ⟨q, 0, none⟩ (.slice a6 (told ++ [x]).length c6)) :=
      ((Kps.of_below hbl (Nat.le_of_lt hql)).trans (Kps.grown hg6 (by have := hbl.size; omega) fun r e => ⟨by have := (hrow2 r e).1; omega, fun o ho => by
        obtain ⟨_, A, h2⟩ := hrow2 r e
        rw [h2] at ho; cases ho; rfl⟩)).trans (Kps.setCell ⟨q, 0, none⟩ _ (Nat.le_refl _) fun o ho => by
          have : w6.heap[q]? = some o := ho
          rw [hb6] at this; cases this; rfl)
    have hfin : (w6.setCell ⟨q, 0, none⟩ (.slice a6 (told ++ [x]).length c6)).heap[q]? = some (.cells #[.slice a6 (told ++ [x]).length c6] 26 (0, 0)) := by
      simp [World.setCell, Array.getElem?_modify, hb6]
    have hOf : OwnU (q + 1) (w6.setCell ⟨q, 0, none⟩ (.slice a6 (told ++ [x]).length c6)) (.slice a6 (told ++ [x]).length c6) (told ++ [x]) := hO6.keep fun g A hg e => Below.heap_setCell _ _ _ _ (by show g ≠ q; omega)
    have hsf : WX.heap.size ≤ (w6.setCell ⟨q, 0, none⟩ (.slice a6 (told ++ [x]).length c6)).heap.size := by
      have h1 := hG.size
      have h2 := hbl.size
      have h3 := hg6.size
      simp only [World.setCell, Array.size_modify]
      omega
    have hbf : Below q w (w6.setCell ⟨q, 0, none⟩ (.slice a6 (told ++ [x]).length c6)) := (hq ▸ hbW : Below q w Wr).trans hkp.low
    have hn2 : (told ++ [x]).Nodup := nodup_snoc hnd hnt
    have hi2 : ∀ y ∈ told ++ [x], y ∈ Ks := fun y hy => by
      rcases List.mem_append.1 hy with hy | hy
      · exact hin y hy
      · rw [List.mem_singleton] at hy; subst hy; exact hx
    have hkp' : Kps w.heap.size WX.heap.size Wr (w6.setCell ⟨q, 0, none⟩ (.slice a6 (told ++ [x]).length c6)) := by rw [hq]; exact hkp
    have HP : Hid _ := hid (And.intro hkp' (And.intro hfin (And.intro hOf (And.intro hn2 (And.intro hi2 (And.intro hsf hbf))))))
    obtain ⟨ll, hll⟩ : ∃ n, told.length = n := ⟨_, rfl⟩
    obtain ⟨ll2, hll2⟩ : ∃ n, (told ++ [x]).length = n := ⟨_, rfl⟩
    rw [hll] at c1 hr c6'
    rw [hll2] at HP hr
    clear hfin hOf hn2 hi2 hsf hbf hkp hkp' hrow hrow2 hO hO1 hO2 hO6 hb6 hb1 hb0 hg6 hnd hin hVs hbV hG hbW hx hnt htl hI0 hs hll hll2
    simp only [List.getElem!_toArray, List.getElem!_cons_zero, List.getElem!_cons_succ]
    gi_wp2_with (first | (gi_at_builtin; go_must (refine wpListIn_app2 rfl (.tmp 8) (.tmp 10) 26 26 rfl rfl rfl hr ?_)) | fail)
    obtain ⟨p1, p2, p3, p4, p5, p6, p7⟩ := HP.out
    exact ⟨p1, _, p2, p3, p4, p5, p6, p7⟩
  case done =>
    rintro D V Wd told hD hfin ⟨v, hb0, hO, hnd, hin, hVs, hbV⟩ hG hbW hdf
    have hO1 : OwnU (q + 1) Wd v told := hO.keep fun g A _ e => (hG.block g _ e (.inr rfl)).trans e.symm
    have hb1 : Wd.heap[q]? = some (.cells #[v] 26 (0, 0)) := hG.block q _ hb0 (.inr rfl)
    obtain ⟨a, c, rfl, _⟩ := hO.cellsE
    have c1 : Wd.cell? ⟨q, 0, none⟩ = some (.slice a told.length c) := cell_of_row _ _ _ _ _ _ hb1
    have hGZ : Gr 0 Wd (Wd.putObj D (.deferred none)) := (Gr.refl _ _).put _ (Nat.zero_le _) hdf rfl
    have hbE : Below w.heap.size w (Wd.putObj D (.deferred none)) := hbW.trans (kps_put Wd _ (by omega) hdf)
    have hO2 : OwnU (q + 1) (Wd.putObj D (.deferred none)) (.slice a told.length c) told := hO1.keep fun g A _ e => (hGZ.block g _ e (.inr rfl)).trans e.symm
    have hO3 : OwnU w.heap.size (Wd.putObj D (.deferred none)) (.slice a told.length c) told := ⟨hO2.1, hO2.2.imp id (by
      rintro ⟨g, cap, cur, e1, e2, r⟩
      exact ⟨g, cap, cur, e1, by omega, r⟩)⟩
    have HR : Hid _ := hid (And.intro hO3 (And.intro hnd (And.intro (fun x => (⟨hin x, hfin x⟩ : x ∈ told ↔ x ∈ Ks)) hbE)))
    have HD : Hid _ := hid hdf
    generalize told.length = ll at *
    clear hO hO1 hO2 hO3 hb0 hb1 hGZ hbE hG hbV hVs hnd hin hfin hdf hI0 hs
    gi_wp2
    refine ⟨by simp, .inl ⟨_, _, rfl, run_takeDeferred HD.out, ?_⟩⟩
    refine ⟨.slice a ll c, by simp [results, Try.results62], ?_⟩
    obtain ⟨p1, p2, p3, p4⟩ := HR.out
    exact ⟨⟨_, told, rfl, p1, p2, p3⟩, p4⟩
  case stop =>
    rintro D c k V Wd hD hf
    exact hf.elim

end Go.Proofs.Ytmfoenhbldacfaa
