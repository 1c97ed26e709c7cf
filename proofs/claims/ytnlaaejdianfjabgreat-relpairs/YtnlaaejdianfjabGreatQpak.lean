import Derived.Test.YtnlaaejdianfjabGreatQpaj
import Derived.Test.YtnlaaejdianfjabGreatQpai
namespace Go.Proofs.YtnlaaejdianfjabGreat
open Go.RowKit Go.Shelf
set_option linter.unusedVariables false
set_option linter.unusedSimpArgs false
attribute [local go_sem] Oper.semAt_some

theorem wpListIn_appR {F : Fence} {nn : Nat} {t e : TypeId} {z : Value} {k bytes B : Nat} (ht : Tryz.prog.underlying t = some (.slice e)) (hinf : (Tryz.prog.info? e).map (fun i => (i.zero, i.size, i.bytes)) = some (some z, k, bytes)) (hzs : z.cells.size = k) (hk : 0 < k) (hby : bytes ≤ 1000)
    {w : World} {ops : Array Oper} {rest : List Oper} {o : Oper} {a : Act} {Q : Exit → Act → World → Prop} (hgd : o.guard = none) (s x : Operand)
    (ho : o.op = .call { callee := .builtin .append, args := #[s, x], argTypes := #[t, t] }) (v : Value) (css : List (List Value)) (g : Nat) (cs : List Value) (hs : a.eval s = v) (hx : a.eval x = .slice (some ⟨g, 0, none⟩) 1 1)
    (hown : OwnR e k B w v css) (hcs : cs.length = k) (h1 : ∀ u ∈ cs, u.oneCell' = true) (hcell : ∀ j (hj : j < cs.length), w.cell? ⟨g, j, none⟩ = some cs[j]) (hl : css.length ≤ 1000) (hB : B ≤ w.heap.size)
    (h : ∀ v' w', OwnR e k B w' v' (css ++ [cs]) → w.grownBy w' v.ownBlock → (v'.ownBlock = v.ownBlock ∨ v'.ownBlock = some w.heap.size) → wpListIn F nn Tryz.prog ops Q rest (a.put o.dst v') w') : wpListIn F nn Tryz.prog ops Q (o :: rest) a w :=
  wpListIn_plain hgd fun _ hK => by
    obtain ⟨v', w', hr, h2, h3, h4⟩ := run_appR ht hinf hzs hk hby w v css g cs hown hcs h1 hcell hl hB (ty := o.type)
    unfold Oper.wpIn
    refine ⟨?_, ?_⟩
    · simp [Oper.about, ho, resolve, Target.leads, Sem.run_pure]
    · rw [Oper.semAt_plain F _ _ (by rw [ho]; intro c hc'; cases hc')]
      simp [execOp, ho, resolve, invoke, builtin, hs, hx, hr, Result.andThen]
      exact hK _ _ (h v' w' h2 h3 h4)
theorem OwnR.gr {ty k B B' : Nat} {w w' : World} {v : Value} {css : List (List Value)} (h : OwnR ty k B w v css) (hg : Gr B' w w') : OwnR ty k B w' v css := by
  refine ⟨h.1, h.2.1, ?_⟩
  rcases h.2.2 with q | ⟨b, cap, cur, hv, hb, hh, r⟩
  · exact .inl q
  · exact .inr ⟨b, cap, cur, hv, hb, hg.block b _ hh (.inr rfl), r⟩
theorem Bk.gr {B : Nat} {w w' : World} {b : Nat} {arr : Array Value} {t : TypeId} {mk : Nat × Nat} (h : Bk w b (.cells arr t mk)) (hg : Gr B w w') : Bk w' b (.cells arr t mk) := ⟨hg.block b _ h.row (.inr rfl)⟩
theorem Bk.grown {w w' : World} {row : Option Nat} {b : Nat} {o : Obj} (h : Bk w b o) (hg : w.grownBy w' row) (hr : some b ≠ row) : Bk w' b o := ⟨(hg.block b h.lt hr).trans h.row⟩
theorem Bk.set {w : World} {b : Nat} {t : TypeId} {u : Value} (h : Bk w b (.cells #[u] t)) (v : Value) : Bk (w.setCell ⟨b, 0, none⟩ v) b (.cells #[v] t) := ⟨Boxed.set v (h.row : Boxed w b t u)⟩
theorem Bk.oth {w : World} {b : Nat} {o : Obj} (h : Bk w b o) {a : Addr} (v : Value) (hne : b ≠ a.block) : Bk (w.setCell a v) b o := ⟨(Below.heap_setCell w a v b hne).trans h.row⟩
/-- Rows of the call's own, wherever their values lie. -/
def TeQ (B : Nat) (w : World) (v : Value) (R : List (List Vt)) : Prop := ∃ css, OwnR 48 1 B w v css ∧ css.length = R.length ∧ ∀ i (h1 : i < R.length) (h2 : i < css.length), eRow.E (fun b => 0 ≤ b ∧ some b ≠ v.ownBlock) w R[i] css[i]
theorem rowE_gr {B : Nat} {w w' : World} (hg : Gr B w w') {Q : Nat → Prop} {r : List Vt} {cs : List Value} (h : eRow.E Q w r cs) : eRow.E Q w' r cs := by
  obtain ⟨a, n, c, h1, h2⟩ := h
  exact ⟨a, n, c, h1, rowV_gr hg h2⟩
theorem TeQ.gr {B B' : Nat} {w w' : World} {v : Value} {R : List (List Vt)} (h : TeQ B w v R) (hg : Gr B' w w') : TeQ B w' v R := by
  obtain ⟨css, h1, h2, h3⟩ := h
  exact ⟨css, h1.gr hg, h2, fun i a b => rowE_gr hg (h3 i a b)⟩
theorem TeQ.row {B : Nat} {w : World} {v : Value} {R : List (List Vt)} (h : TeQ B w v R) : RowIs eRow (fun _ => True) w v R := by
  obtain ⟨css, ho, hl, hE⟩ := h
  obtain ⟨a, m, d, rfl⟩ := ho.sl
  exact OwnR.rowE (e := eRow) ho hl.symm (fun b hb _ => trivial) fun i h1 h2 => eRow.mono (fun b hb _ => trivial) (hE i h1 h2)
theorem TeQ.snoc {B : Nat} {w5 w6 : World} {va : Option Addr} {vm vd : Nat} {css : List (List Value)} {R : List (List Vt)} {r : List Vt} {ra : Option Addr} {rm rd : Nat} {v' : Value} (hcl : css.length = R.length)
    (hE : ∀ i (h1 : i < R.length) (h2 : i < css.length), eRow.E (fun b => 0 ≤ b ∧ some b ≠ (Value.slice va vm vd).ownBlock) w5 R[i] css[i]) (hEn : eRow.E (fun b => 0 ≤ b ∧ some b ≠ (Value.slice va vm vd).ownBlock) w5 r [.slice ra rm rd])
    (hO : OwnR 48 1 B w6 v' (css ++ [[.slice ra rm rd]])) (hg : w5.grownBy w6 (Value.slice va vm vd).ownBlock) (hown : v'.ownBlock = (Value.slice va vm vd).ownBlock ∨ v'.ownBlock = some w5.heap.size) : TeQ B w6 v' (R ++ [r]) := by
  obtain ⟨a6, m6, d6, rfl⟩ := hO.sl
  refine ⟨css ++ [[.slice ra rm rd]], hO, by simp [hcl], fun i h1 h2 => ?_⟩
  by_cases hi : i < css.length
  · rw [List.getElem_append_left hi, List.getElem_append_left (by omega)]
    exact eRow.grow (hE i (by omega) hi) hg hown
  · have hic : i = css.length := by rw [List.length_append] at h2; simp at h2; omega
    have hir : i = R.length := by omega
    rw [List.getElem_append_right (by omega), List.getElem_append_right (by omega)]
    simp only [hic, Nat.sub_self, List.getElem_cons_zero, hcl]
    exact eRow.grow hEn hg hown
theorem OwnR.prt {k B : Nat} {w : World} {v : Value} {css : List (List Value)} (h : OwnR 48 k B w v css) : ∀ r, v.ownBlock = some r → B ≤ r ∧ ∀ o, w.heap[r]? = some o → prt o = false := fun r e => by
  refine ⟨(h.blk r e).1, fun o ho => ?_⟩
  rcases h.2.2 with ⟨rfl, _⟩ | ⟨b, cap, cur, rfl, hb, hh, _⟩
  · cases e
  · cases e
    rw [hh] at ho
    cases ho
    rfl
theorem rowV_set {w : World} {b : Nat} {x0 : Value} {t : TypeId} (hb : Bk w b (.cells #[x0] t)) (u : Value) {Q : Nat → Prop} {v : Value} {l : List Vt} (h : RowIs eVal Q w v l) : RowIs eVal Q (w.setCell ⟨b, 0, none⟩ u) v l := by
  obtain ⟨ao, n, c, hv, hl, hn, hc, hx⟩ := h
  refine ⟨ao, n, c, hv, hl, hn, hc, fun hp => ?_⟩
  obtain ⟨b', o, ha, hq, hi⟩ := hx hp
  have hne : b' ≠ b := by
    intro e
    subst e
    have hp0 : 0 < l.length := by omega
    obtain ⟨x, hx0⟩ : ∃ x, l[0]'hp0 = x := ⟨_, rfl⟩
    obtain ⟨cs, h1, h2, h3⟩ := hi 0 hp0
    rw [hx0] at h1
    have h1' : cs = [.int .i64 x.1, .int .i64 x.2.1, .string x.2.2] := h1
    subst h1'
    have h4 := h3 1 (by simp)
    rw [hb.cell] at h4
    generalize o + 0 * eVal.k = m at *
    simp at h4
  refine ⟨b', o, ha, hq, fun i h => ?_⟩
  obtain ⟨cs, h1, h2, h3⟩ := hi i h
  exact ⟨cs, h1, h2, fun j hj => (World.cell?_of_block (a := ⟨b', _, none⟩) (Below.heap_setCell w _ u b' hne)).trans (h3 j hj)⟩
theorem TeQ.set {B : Nat} {w : World} {v : Value} {R : List (List Vt)} (h : TeQ B w v R) {b : Nat} (u : Value) (hb : b < B) {x0 : Value} {t : TypeId} (hbk : Bk w b (.cells #[x0] t)) : TeQ B (w.setCell ⟨b, 0, none⟩ u) v R := by
  obtain ⟨css, ho, hl, hE⟩ := h
  refine ⟨css, ⟨ho.1, ho.2.1, ?_⟩, hl, fun i h1 h2 => ?_⟩
  · rcases ho.2.2 with q | ⟨g, cap, cur, hv, hg, hh, r⟩
    · exact .inl q
    · exact .inr ⟨g, cap, cur, hv, hg, (Below.heap_setCell w _ u g (by show g ≠ b; omega)).trans hh, r⟩
  · obtain ⟨a, n, c, q1, q2⟩ := hE i h1 h2
    exact ⟨a, n, c, q1, rowV_set hbk u q2⟩
set_option maxRecDepth 100000 in
set_option maxHeartbeats 4000000 in
theorem gathered_any {w : World} {gf : Nat} {lb : Array Value} {F : List (List Vt) × Int} (eg : ∀ args w, (callFunc gf args).run Tryz.prog w = .ok (.enter gf args) w) (hl : F.1.length ≤ 500) (hs : SeqW Tryz.prog gf lb (fndN F) (A2 w.heap.size F) w) :
    Calls Tryz.prog 35 #[.func (.func gf) #[] lb] w fun e w' => ∃ a n c, e = .returned (.tuple #[.slice a n c, .int .i64 F.2]) ∧ Below w.heap.size w w' ∧ (F.2 = 0 → RowIs eRow (fun _ => True) w' (.slice a n c) F.1) ∧ (F.2 ≠ 0 → a = none ∧ n = 0 ∧ c = 0) := by
  have hw := bal (bal (bal (Below.refl w.heap.size w) (.cells #[.slice none 0 0] 33)) (.cells #[.int .i64 0] 49)) (.cells #[.slice none 0 0] 33)
  have b0 := ((Bk.new w (.cells #[.slice none 0 0] 33)).later (bal (Below.refl _ _) (.cells #[.int .i64 0] 49))).later (bal (Below.refl _ _) (.cells #[.slice none 0 0] 33))
  have b1 := (Bk.new (w.alloc (.cells #[.slice none 0 0] 33)) (.cells #[.int .i64 0] 49)).later (bal (Below.refl _ _) (.cells #[.slice none 0 0] 33))
  have b2 := Bk.new ((w.alloc (.cells #[.slice none 0 0] 33)).alloc (.cells #[.int .i64 0] 49)) (.cells #[.slice none 0 0] 33)
  have hsz : (((w.alloc (.cells #[.slice none 0 0] 33)).alloc (.cells #[.int .i64 0] 49)).alloc (.cells #[.slice none 0 0] 33)).heap.size = w.heap.size + 3 := by simp
  rw [World.size_alloc] at b1
  rw [World.size_alloc, World.size_alloc] at b2
  have hss : SeqW Tryz.prog gf lb (fndN F) (A2 w.heap.size F) w := hs
  clear hs
  refine (callsIn_wide (n := 0)).1 (callsIn_of_wp_marks Tryz.func35 rfl trivial ?_ rfl)
  simp only [Tryz.ntmps35, List.size_toArray, List.length_cons, List.length_nil, Nat.reduceAdd, Nat.reduceSub, Array.replicate_succ, Array.replicate_zero, List.push_toArray, List.append_toArray, List.nil_append, List.cons_append]
  gi_wp2
  generalize ((w.alloc (.cells #[.slice none 0 0] 33)).alloc (.cells #[.int .i64 0] 49)).alloc (.cells #[.slice none 0 0] 33) = WX at *
  obtain ⟨q, hq⟩ : ∃ q, w.heap.size = q := ⟨_, rfl⟩
  have hw' : Below q w WX := hq ▸ hw
  rw [hq] at b0 b1 b2 hsz
  (try rw [hq])
  have HT0 : Hid (TeQ WX.heap.size WX (.slice none 0 0) []) := hid ⟨[], OwnR.nil _ _ _ _, rfl, fun i h1 => absurd h1 (by simp)⟩
  refine range_any (gf := gf) (lb := lb) (N := fndN F) (A := A2 w.heap.size F) (w0 := w) rfl eg hss hw (fun h h1 h2 => A2.on h h1 h2)
    (fun k V => ∃ va vm vd, k ≤ F.1.length ∧ Bk V q (.cells #[.slice none 0 0] 33) ∧ Bk V (q + 1) (.cells #[.int .i64 0] 49) ∧ Bk V (q + 1 + 1) (.cells #[.slice va vm vd] 33) ∧ TeQ WX.heap.size V (.slice va vm vd) (F.1.take k) ∧ WX.heap.size ≤ V.heap.size ∧ Below q w V)
    (fun c k V => c = .ret ∧ F.2 ≠ 0 ∧ Bk V q (.cells #[.slice none 0 0] 33) ∧ Bk V (q + 1) (.cells #[.int .i64 F.2] 49) ∧ Below q w V)
    ⟨none, 0, 0, Nat.zero_le _, b0, b1, b2, HT0.out, Nat.le_refl _, hw'⟩
    (fun xs => { tmps := #[.func (.func gf) #[] lb, undef, .pointer (some ⟨q, 0, none⟩), .pointer (some ⟨q + 1, 0, none⟩), .pointer (some ⟨q + 1 + 1, 0, none⟩), xs[0]!, xs[1]!, .func (.func gf) #[] lb, xs[0]!, xs[1]!, undef, undef, undef, undef, undef, undef, undef, undef], defers := [] }) ?has ?bo ?done ?stop
  case has =>
    rintro l2 xs W2 K ⟨k, s, V, ⟨a, n, c, r, rfl, -, -⟩ | ⟨-, -, rfl⟩⟩ hK
    · gi_wp2
      exact hK
    · gi_wp2
      exact hK
  case bo =>
    rintro l2 k V Wr xs hk ⟨va, vm, vd, hkF, hb0, hb1, hb2, hT, hVs, hbV⟩ hG hbW hA
    rcases hA with ⟨a, n, c, r, rfl, hr, hrow⟩ | ⟨rfl, he, rfl⟩
    · obtain ⟨hkl, hkr⟩ := List.getElem?_eq_some_iff.1 hr
      have HNx : Hid (F.1.take (k + 1) = F.1.take k ++ [r]) := hid (by rw [List.take_succ_eq_append_getElem hkl, hkr])
      have r2 := hb2.gr hG
      have c2 : Wr.cell? ⟨q + 1 + 1, 0, none⟩ = some (.slice va vm vd) := r2.cell 0
      have hbl := bal (Below.refl _ Wr) (.cells #[.slice a n c] 48)
      have hblk : ∀ b, (Value.slice va vm vd).ownBlock = some b → WX.heap.size ≤ b ∧ b < V.heap.size := fun b e => by
        obtain ⟨css, ho, -, -⟩ := hT
        exact ho.blk b e
      obtain ⟨css, ho, hcl, hE⟩ := (hT.gr hG).gr (Gr.of_below (B := 0) hbl)
      have hEn : eRow.E (fun b => 0 ≤ b ∧ some b ≠ (Value.slice va vm vd).ownBlock) (Wr.alloc (.cells #[.slice a n c] 48)) r [.slice a n c] := ⟨a, n, c, rfl, (rowV_gr (Gr.of_below (B := 0) hbl) hrow).mono (by decide) fun b hq2 _ => ⟨Nat.zero_le _, fun e => by
        have h9 := hblk b e.symm
        rcases hq2 with h | h
        · omega
        · omega⟩⟩
      have r5 := r2.later hbl
      have hsz5 : WX.heap.size ≤ (Wr.alloc (.cells #[.slice a n c] 48)).heap.size := Nat.le_trans (Nat.le_trans hVs hG.size) hbl.size
      have HR : Hid _ := hid (And.intro hcl (And.intro hE (And.intro hEn (And.intro (hb0.gr hG) (And.intro (hb1.gr hG) ho.prt)))))
      have HB : Hid _ := hid hbW
      have hcs : css.length ≤ 1000 := by rw [hcl, List.length_take]; omega
      clear hr hrow hE hEn hb0 hb1 hb2 hT hbV hG hbW hcl hkr r2
      simp only [List.getElem!_toArray, List.getElem!_cons_zero, List.getElem!_cons_succ]
      gi_wp2_with (first | (gi_at_builtin; go_must (refine wpListIn_appR Tryz.underlying33 Tryz.infoTRow rfl (by decide) (by decide) rfl (.tmp 13) (.tmp 15) rfl _ css Wr.heap.size [.slice a n c] rfl rfl ho rfl (by simp [Value.oneCell']) (newV1 Wr _ _) hcs hsz5 ?_)) | fail)
      intro v' w6 hO6 hg6 hown
      obtain ⟨a6, m6, d6, rfl⟩ := hO6.sl
      obtain ⟨hcl, hE, hEn, hb0, hb1, hpr⟩ := HR.out
      have hne : ∀ i, i < q + 3 → some i ≠ (Value.slice va vm vd).ownBlock := fun i hi e => by
        have := (hpr i e.symm).1
        omega
      have r6 := r5.grown hg6 (hne _ (by omega))
      have q0 := (hb0.later hbl).grown hg6 (hne _ (by omega))
      have q1 := (hb1.later hbl).grown hg6 (hne _ (by omega))
      have hT6 : TeQ WX.heap.size w6 (.slice a6 m6 d6) (F.1.take (k + 1)) := by
        rw [HNx.out, hsz]
        exact TeQ.snoc hcl hE hEn hO6 hg6 (by rw [World.size_alloc]; exact hown)
      have hs6 : WX.heap.size ≤ w6.heap.size := by rw [hsz]; exact Nat.le_trans (by omega) hg6.size
      have hkp : Kps w.heap.size WX.heap.size Wr (w6.setCell ⟨q + 1 + 1, 0, none⟩ (.slice a6 m6 d6)) :=
        ((Kps.of_below hbl HB.out.size).trans (Kps.grown hg6 (Nat.le_trans HB.out.size hbl.size) fun r e => ⟨by have := (hpr r e).1; omega, (hpr r e).2⟩)).trans (Kps.setCell ⟨q + 1 + 1, 0, none⟩ _ (by show w.heap.size ≤ q + 1 + 1; omega) fun o ho => by
          have := r6.row.symm.trans ho
          cases this
          rfl)
      have HP : Hid _ := hid (And.intro hkp (And.intro (q0.oth (a := ⟨q + 1 + 1, 0, none⟩) (.slice a6 m6 d6) (by show q ≠ q + 1 + 1; omega)) (And.intro (q1.oth (a := ⟨q + 1 + 1, 0, none⟩) (.slice a6 m6 d6) (by show q + 1 ≠ q + 1 + 1; omega)) (And.intro (r6.set (.slice a6 m6 d6)) (And.intro (hT6.set (.slice a6 m6 d6) (by omega) r6) hs6)))))
      have c6 : w6.cell? ⟨q + 1 + 1, 0, none⟩ = some (.slice va vm vd) := r6.cell 0
      have f6 := r6.free 0
      clear hcl hE hEn hb0 hb1 hpr r6 q0 q1 hT6 hkp hO6 hg6 hown hne ho r5 c2 hcs
      gi_wp2
      obtain ⟨p1, p2, p3, p4, p5, p6⟩ := HP.out
      exact ⟨p1, a6, m6, d6, hkl, p2, p3, p4, p5, by simp only [World.setCell, Array.size_modify]; exact p6, (HB.out.mono (Nat.le_of_eq hq.symm)).trans (p1.low.mono (Nat.le_of_eq hq.symm))⟩
    · have q0 := hb0.gr hG
      have q1 := hb1.gr hG
      have c0 : Wr.cell? ⟨q, 0, none⟩ = some (.slice none 0 0) := q0.cell 0
      have c1 : Wr.cell? ⟨q + 1, 0, none⟩ = some (.int .i64 0) := q1.cell 0
      have f0 := q0.free 0
      have f1 := q1.free 0
      have hk1 : Kps w.heap.size WX.heap.size Wr (Wr.setCell ⟨q, 0, none⟩ (.slice none 0 0)) := Kps.setCell ⟨q, 0, none⟩ _ (by show w.heap.size ≤ q; omega) fun o ho => by
        have := q0.row.symm.trans ho
        cases this
        rfl
      have q1' := q1.oth (a := ⟨q, 0, none⟩) (.slice none 0 0) (by show q + 1 ≠ q; omega)
      have hk2 : Kps w.heap.size WX.heap.size (Wr.setCell ⟨q, 0, none⟩ (.slice none 0 0)) ((Wr.setCell ⟨q, 0, none⟩ (.slice none 0 0)).setCell ⟨q + 1, 0, none⟩ (.int .i64 F.2)) := Kps.setCell ⟨q + 1, 0, none⟩ _ (by show w.heap.size ≤ q + 1; omega) fun o ho => by
        have := q1'.row.symm.trans ho
        cases this
        rfl
      have HP : Hid _ := hid (And.intro (hk1.trans hk2) (And.intro ((q0.set (.slice none 0 0)).oth (a := ⟨q + 1, 0, none⟩) (.int .i64 F.2) (by show q ≠ q + 1; omega)) (q1'.set (.int .i64 F.2))))
      have HB : Hid _ := hid hbW
      have h0' : (F.2 != 0) = true := by simpa using he
      have h0d : decide (F.2 = 0) = false := by simpa using he
      clear hb0 hb1 hb2 hT hbV hG hbW q0 q1 q1' hk1 hk2
      simp only [List.getElem!_toArray, List.getElem!_cons_zero, List.getElem!_cons_succ]
      gi_wp2
      obtain ⟨p1, p2, p3⟩ := HP.out
      exact ⟨p1, rfl, he, p2, p3, (HB.out.mono (Nat.le_of_eq hq.symm)).trans (p1.low.mono (Nat.le_of_eq hq.symm))⟩
  case done =>
    rintro D V Wd hD ⟨va, vm, vd, hkF, hb0, hb1, hb2, hT, hVs, hbV⟩ hG hbW hdf
    have hF0 : F.2 = 0 := by
      by_cases h : F.2 = 0
      · exact h
      · unfold fndN at hkF
        rw [if_pos h] at hkF
        omega
    have hFn : F.1.take (fndN F) = F.1 := by unfold fndN; rw [hF0, if_neg (by simp), Nat.add_zero, List.take_length]
    rw [hFn] at hT
    have hDq : q + 3 ≤ D := by rw [← hsz]; exact hD
    have t0 := hb0.gr hG
    have t1 := hb1.gr hG
    have t2 := hb2.gr hG
    have c0 : Wd.cell? ⟨q, 0, none⟩ = some (.slice none 0 0) := t0.cell 0
    have c1 : Wd.cell? ⟨q + 1, 0, none⟩ = some (.int .i64 0) := t1.cell 0
    have c2 : Wd.cell? ⟨q + 1 + 1, 0, none⟩ = some (.slice va vm vd) := t2.cell 0
    have f0 := t0.free 0
    have f1 := t1.free 0
    have u0 := (t0.set (.slice va vm vd)).oth (a := ⟨q + 1, 0, none⟩) (.int .i64 0) (by show q ≠ q + 1; omega)
    have u1 := (t1.oth (a := ⟨q, 0, none⟩) (.slice va vm vd) (by show q + 1 ≠ q; omega)).set (.int .i64 0)
    have hT1 := ((hT.gr hG).set (.slice va vm vd) (by omega) t0).set (.int .i64 0) (b := q + 1) (by omega) (t1.oth (a := ⟨q, 0, none⟩) (.slice va vm vd) (by show q + 1 ≠ q; omega))
    obtain ⟨Z, hZ⟩ : ∃ Z, (Wd.setCell ⟨q, 0, none⟩ (.slice va vm vd)).setCell ⟨q + 1, 0, none⟩ (.int .i64 0) = Z := ⟨_, rfl⟩
    rw [hZ] at u0 u1 hT1
    have hbZ : Below w.heap.size w Z := by
      rw [← hZ]
      exact (hbW.setCell (p := ⟨q, 0, none⟩) (by show w.heap.size ≤ q; omega) _).setCell (p := ⟨q + 1, 0, none⟩) (by show w.heap.size ≤ q + 1; omega) _
    have hdZ : Z.heap[D]? = some (.deferred (some [])) := by
      rw [← hZ, Below.heap_setCell _ _ _ _ (by show D ≠ q + 1; omega), Below.heap_setCell _ _ _ _ (by show D ≠ q; omega)]
      exact hdf
    have hGZ : Gr 0 Z (Z.putObj D (.deferred none)) := (Gr.refl _ _).put _ (Nat.zero_le _) hdZ rfl
    have z0 := (u0.gr hGZ).cell 0
    have z1 := (u1.gr hGZ).cell 0
    have hbE : Below w.heap.size w (Z.putObj D (.deferred none)) := hbZ.trans (kps_put Z _ (by omega) hdZ)
    have hrE := (hT1.gr hGZ).row
    simp only [List.getElem?_toArray, List.getElem?_cons_zero] at z0 z1
    have HR : Hid _ := hid (And.intro hrE (And.intro hbE hF0))
    have HZ : Hid _ := hid hZ
    have HD : Hid _ := hid (And.intro hdZ (And.intro z0 z1))
    clear hrE hbE hF0 hGZ hbZ hT1 u0 u1 t0 t1 t2 hT hb0 hb1 hb2 hG hbV hFn hZ hdZ z0 z1 hbW
    gi_wp2
    rw [HZ.out]
    refine ⟨by simp, .inl ⟨_, _, rfl, run_takeDeferred HD.out.1, ?_⟩⟩
    obtain ⟨-, z0, z1⟩ := HD.out
    refine ⟨.tuple #[.slice va vm vd, .int .i64 0], by simp [results, Tryz.results35, go_sem, z0, z1], ?_⟩
    obtain ⟨p1, p2, p3⟩ := HR.out
    exact ⟨va, vm, vd, by rw [p3], p2, fun _ => p1, fun h => absurd p3 h⟩
  case stop =>
    rintro D c k V Wd hD hk ⟨rfl, he, hb0, hb1, hbV⟩ hG hbW hdf
    have hDq : q + 3 ≤ D := by rw [← hsz]; exact hD
    have hGZ : Gr 0 Wd (Wd.putObj D (.deferred none)) := (Gr.refl _ _).put _ (Nat.zero_le _) hdf rfl
    have z0 := ((hb0.gr hG).gr hGZ).cell 0
    have z1 := ((hb1.gr hG).gr hGZ).cell 0
    have hbE : Below w.heap.size w (Wd.putObj D (.deferred none)) := hbW.trans (kps_put Wd _ (by omega) hdf)
    simp only [List.getElem?_toArray, List.getElem?_cons_zero] at z0 z1
    clear hb0 hb1 hG hGZ
    gi_wp2
    refine ⟨by simp, .inl ⟨_, _, rfl, run_takeDeferred hdf, ?_⟩⟩
    exact ⟨.tuple #[.slice none 0 0, .int .i64 F.2], by simp [results, Tryz.results35, go_sem, z0, z1], none, 0, 0, rfl, hbE, fun h => absurd h he, fun _ => ⟨rfl, rfl, rfl⟩⟩

end Go.Proofs.YtnlaaejdianfjabGreat
namespace Go.Proofs.YtnlaaejdianfjabGreat
open Go.RowKit
set_option linter.unusedVariables false
set_option linter.unusedSimpArgs false

/-- How two rows stand to each other. -/
def cZ (bn : Nat) (ds : Bool) (x y : List Vt) : Int := if ds then cmpVt (y.getD bn vZ) (x.getD bn vZ) else cmpVt (x.getD bn vZ) (y.getD bn vZ)
theorem cZ_beh (bn : Nat) (ds : Bool) (x y : List Vt) : behP bn ds x y = !decide (cZ bn ds x y < 0) := by
  have h := cmpV_neg (x.getD bn vZ).1 (x.getD bn vZ).2.1 (nums (x.getD bn vZ).2.2) (y.getD bn vZ).1 (y.getD bn vZ).2.1 (nums (y.getD bn vZ).2.2)
  have h2 : cmpVt (y.getD bn vZ) (x.getD bn vZ) = -cmpVt (x.getD bn vZ) (y.getD bn vZ) := h
  unfold behP cZ
  cases ds
  · rw [if_neg (by simp), if_neg (by simp), h2, ← decide_not]
    apply decide_eq_decide.2; omega
  · rw [if_pos rfl, if_pos rfl, ← decide_not]
    apply decide_eq_decide.2; omega
/-- A function value that holds two values against each other. -/
def CmpV (w : World) (v : Value) (cf : Vt → Vt → Int) : Prop := ∃ N caps, v = .func (.func N) #[] caps ∧ (∀ args w', (callFunc N args).run Tryz.prog w' = .ok (.enter N args) w') ∧
  ∀ (x y : Vt) (w' : World), Below w.heap.size w w' → Calls Tryz.prog N (#[vV x, vV y] ++ caps) w' fun e w'' => e = .returned (.int .i64 (cf x y)) ∧ Below w'.heap.size w' w''
theorem CmpV.later {w w' : World} {v : Value} {cf : Vt → Vt → Int} (h : CmpV w v cf) (hb : Below w.heap.size w w') : CmpV w' v cf := by
  obtain ⟨N, caps, h1, h2, h3⟩ := h
  exact ⟨N, caps, h1, h2, fun x y w2 hb2 => h3 x y w2 (Below.on hb hb2)⟩
set_option maxRecDepth 100000 in
theorem cmpV_plain (w : World) : CmpV w (.func (.func 41) #[] #[]) cmpVt :=
  ⟨_, _, rfl, fun args w' => by rfl, fun x y w' _ => compare_any x.1 x.2.1 x.2.2 y.1 y.2.1 y.2.2 w'⟩
set_option maxRecDepth 100000 in
set_option maxHeartbeats 2000000 in
theorem falling1_any {w : World} {v : Value} {cf : Vt → Vt → Int} (hv : CmpV w v cf) {b : Nat} (hb : w.cell? ⟨b, 0, none⟩ = some v) (x y : Vt) :
    Calls Tryz.prog 70 #[vV x, vV y, .pointer (some ⟨b, 0, none⟩)] w fun e w' => e = .returned (.int .i64 (cf y x)) ∧ Below w.heap.size w w' := by
  obtain ⟨x0, x1, x2⟩ := x
  obtain ⟨y0, y1, y2⟩ := y
  have hw := bal (bal (Below.refl w.heap.size w) (.cells #[.int .i64 x0, .int .i64 x1, .string x2] 39)) (.cells #[.int .i64 y0, .int .i64 y1, .string y2] 39)
  have b1 := (Bk.new w (.cells #[.int .i64 x0, .int .i64 x1, .string x2] 39)).later (bal (Below.refl _ _) (.cells #[.int .i64 y0, .int .i64 y1, .string y2] 39))
  have b2 := Bk.new (w.alloc (.cells #[.int .i64 x0, .int .i64 x1, .string x2] 39)) (.cells #[.int .i64 y0, .int .i64 y1, .string y2] 39)
  rw [World.size_alloc] at b2
  replace hv := hv.later hw
  replace hb := cell_later hw hb
  obtain ⟨N, caps, rfl, hcf, hN⟩ := hv
  have HN : Hid (∀ w', Below _ _ w' → _) := hid fun w' h => hN (y0, y1, y2) (x0, x1, x2) w' h
  generalize cf (y0, y1, y2) (x0, x1, x2) = R at *
  clear hN
  go_enter Tryz.func70, Tryz.ntmps70
  go_upto_region 1 with fail
  generalize (w.alloc (.cells #[.int .i64 x0, .int .i64 x1, .string x2] 39)).alloc (.cells #[.int .i64 y0, .int .i64 y1, .string y2] 39) = W at *
  have d0 := b1.cell 0
  have d1 := b1.cell 1
  have d2 := b1.cell 2
  have e0 := b2.cell 0
  have e1 := b2.cell 1
  have e2 := b2.cell 2
  simp only [List.getElem?_toArray, List.getElem?_cons_zero, List.getElem?_cons_succ] at d0 d1 d2 e0 e1 e2
  clear b1 b2
  have HN2 := HN.out W (Below.refl _ _)
  replace HN2 : Hid _ := hid HN2
  clear HN
  go_wp2_with fail
  refine Calls.mono HN2.out ?_
  rintro e w1 ⟨rfl, hb1⟩
  have hB := Below.on hw hb1
  clear HN2
  go_wp2
  go_ret
  exact ⟨rfl, hB⟩
set_option maxRecDepth 100000 in
theorem cmpV_fall {w : World} {v : Value} {cf : Vt → Vt → Int} (hv : CmpV w v cf) {b : Nat} (hb : w.cell? ⟨b, 0, none⟩ = some v) : CmpV w (.func (.func 70) #[] #[.pointer (some ⟨b, 0, none⟩)]) (fun x y => cf y x) :=
  ⟨_, _, rfl, fun args w' => by rfl, fun x y w' hb2 => falling1_any (hv.later hb2) (cell_later hb2 hb) x y⟩
set_option maxRecDepth 100000 in
set_option maxHeartbeats 2000000 in
theorem falling_any {w : World} {v : Value} {cf : Vt → Vt → Int} (hv : CmpV w v cf) :
    Calls Tryz.prog 42 #[v] w fun e w' => ∃ u, e = .returned u ∧ CmpV w' u (fun x y => cf y x) ∧ Below w.heap.size w w' := by
  have hc := cell_new w #[v] 101 (0, 0) 0
  simp only [List.getElem?_toArray, List.getElem?_cons_zero] at hc
  have hw := bal (Below.refl w.heap.size w) (.cells #[v] 101)
  have HV : Hid _ := hid (cmpV_fall (hv.later hw) hc)
  obtain ⟨N, caps, rfl, hcf, hN⟩ := hv
  clear hN
  have hmf : ∀ (fn : Fn) (first cap : Array Value) (w : World), (Instr.makeFunc fn first cap).run Tryz.prog w = .ok (.func fn first cap) w := fun _ _ _ _ => rfl
  go_enter Tryz.func42, Tryz.ntmps42
  go_wp2
  go_ret
  exact ⟨_, rfl, HV.out, hw⟩
/-- The key of a row. -/
def KeyR (w : World) (v : Value) (bn : Nat) : Prop := ∃ N caps, v = .func (.func N) #[] caps ∧ (∀ args w', (callFunc N args).run Tryz.prog w' = .ok (.enter N args) w') ∧
  ∀ (x : List Vt) (a : Option Addr) (n c : Nat) (Q : Nat → Prop) (w' : World), Below w.heap.size w w' → bn < x.length → RowIs eVal Q w' (.slice a n c) x → Calls Tryz.prog N (#[.slice a n c] ++ caps) w' fun e w'' => e = .returned (vV (x.getD bn vZ)) ∧ Below w'.heap.size w' w''
theorem KeyR.later {w w' : World} {v : Value} {bn : Nat} (h : KeyR w v bn) (hb : Below w.heap.size w w') : KeyR w' v bn := by
  obtain ⟨N, caps, h1, h2, h3⟩ := h
  exact ⟨N, caps, h1, h2, fun x a n c Q w2 hb2 => h3 x a n c Q w2 (Below.on hb hb2)⟩
set_option maxRecDepth 100000 in
set_option maxHeartbeats 2000000 in
theorem key_any {w : World} {b bn : Nat} (hb : w.cell? ⟨b, 0, none⟩ = some (.int .i64 (bn : Int))) {x : List Vt} (hx : bn < x.length) {a : Option Addr} {n c : Nat} {Q : Nat → Prop} (h : RowIs eVal Q w (.slice a n c) x) :
    Calls Tryz.prog 44 #[.slice a n c, .pointer (some ⟨b, 0, none⟩)] w fun e w' => e = .returned (vV (x.getD bn vZ)) ∧ Below w.heap.size w w' := by
  obtain ⟨l1, l2, l3⟩ := row_lens h
  obtain ⟨ba, o, rfl, -, x0, x1, x2⟩ := val1 h hx
  have hg : x.getD bn vZ = x[bn] := by rw [List.getD_eq_getElem?_getD, List.getElem?_eq_getElem hx]; rfl
  rw [hg]
  obtain ⟨v, hv⟩ : ∃ v, x[bn] = v := ⟨_, rfl⟩
  rw [hv] at x0 x1 x2 ⊢
  obtain ⟨v0, v1, v2⟩ := v
  have hw := bal (Below.refl w.heap.size w) zV
  have hz := Bv.new w
  have hbn : (bn : Int) < (n : Int) := by omega
  replace x0 := cell_later hw x0
  replace x1 := cell_later hw x1
  replace x2 := cell_later hw x2
  replace hb := cell_later hw hb
  clear hv hg h
  go_enter Tryz.func44, Tryz.ntmps44
  go_upto_region 1 with fail
  generalize w.alloc zV = W at *
  obtain ⟨d0, d1, d2⟩ := hz.cells
  obtain ⟨f0, f1, f2⟩ := hz.free
  have hl := hz.lt
  clear hz
  go_wp2
  exact bodyPost_ret (v := vV (v0, v1, v2)) (by simp [results, Tryz.results44, go_sem, d0, d1, d2]) rfl ⟨rfl, below3 hw (Nat.le_refl _) _ _ _⟩
set_option maxRecDepth 100000 in
theorem keyR_of {w : World} {b bn : Nat} (hb : w.cell? ⟨b, 0, none⟩ = some (.int .i64 (bn : Int))) : KeyR w (.func (.func 44) #[] #[.pointer (some ⟨b, 0, none⟩)]) bn :=
  ⟨_, _, rfl, fun args w' => by rfl, fun x a n c Q w' hb2 hx h => key_any (cell_later hb2 hb) hx h⟩
/-- A function value that holds two rows against each other. -/
def CmpR (w : World) (v : Value) (bn : Nat) (ds : Bool) : Prop := ∃ N caps, v = .func (.func N) #[] caps ∧ (∀ args w', (callFunc N args).run Tryz.prog w' = .ok (.enter N args) w') ∧
  ∀ (x y : List Vt) (a : Option Addr) (n c : Nat) (a2 : Option Addr) (n2 c2 : Nat) (Q : Nat → Prop) (w' : World), Below w.heap.size w w' → bn < x.length → bn < y.length → RowIs eVal Q w' (.slice a n c) x → RowIs eVal Q w' (.slice a2 n2 c2) y → Calls Tryz.prog N (#[.slice a n c, .slice a2 n2 c2] ++ caps) w' fun e w'' => e = .returned (.int .i64 (cZ bn ds x y)) ∧ Below w'.heap.size w' w''
set_option maxRecDepth 100000 in
set_option maxHeartbeats 4000000 in
theorem sorted1_any {w : World} {bo bk bn : Nat} {ds : Bool} {vo vk : Value} (ho : CmpV w vo (fun x y => if ds then cmpVt y x else cmpVt x y)) (hk : KeyR w vk bn) (co : w.cell? ⟨bo, 0, none⟩ = some vo) (ck : w.cell? ⟨bk, 0, none⟩ = some vk)
    {x y : List Vt} (hx : bn < x.length) (hy : bn < y.length) {a : Option Addr} {n c : Nat} {a2 : Option Addr} {n2 c2 : Nat} {Q : Nat → Prop} (h1 : RowIs eVal Q w (.slice a n c) x) (h2 : RowIs eVal Q w (.slice a2 n2 c2) y) :
    Calls Tryz.prog 73 #[.slice a n c, .slice a2 n2 c2, .pointer (some ⟨bo, 0, none⟩), .pointer (some ⟨bk, 0, none⟩)] w fun e w' => e = .returned (.int .i64 (cZ bn ds x y)) ∧ Below w.heap.size w w' := by
  obtain ⟨N, caps, rfl, hcf, hN⟩ := ho
  obtain ⟨M, caps2, rfl, hcf2, hM⟩ := hk
  have HX : Hid (∀ w', Below w.heap.size w w' → _) := hid fun w' hb => hM x a n c (fun _ => True) w' hb hx ((h1.keep (by decide) fun b _ hl => hb.block b hl).mono (by decide) fun _ _ _ => trivial)
  have HY : Hid (∀ w', Below w.heap.size w w' → _) := hid fun w' hb => hM y a2 n2 c2 (fun _ => True) w' hb hy ((h2.keep (by decide) fun b _ hl => hb.block b hl).mono (by decide) fun _ _ _ => trivial)
  have HC : Hid (∀ w', Below w.heap.size w w' → _) := hid fun w' hb => hN (x.getD bn vZ) (y.getD bn vZ) w' hb
  have HE : (if ds then cmpVt (y.getD bn vZ) (x.getD bn vZ) else cmpVt (x.getD bn vZ) (y.getD bn vZ)) = cZ bn ds x y := rfl
  simp only [HE] at HC
  generalize cZ bn ds x y = R at *
  generalize x.getD bn vZ = kx at *
  generalize y.getD bn vZ = ky at *
  obtain ⟨kx0, kx1, kx2⟩ := kx
  obtain ⟨ky0, ky1, ky2⟩ := ky
  have hC : Below w.heap.size w w.drew := (Below.refl _ w).drew
  clear hN hM h1 h2 HE hx hy
  go_enter Tryz.func73, Tryz.ntmps73
  go_upto_region 1 with fail
  go_region_held (fun w' => w'.cell? ⟨bo, 0, none⟩ = some (.func (.func N) #[] caps) ∧ w'.cell? ⟨bk, 0, none⟩ = some (.func (.func M) #[] caps2)) (exact ⟨cell_later hC co, cell_later hC ck⟩)
    (first
    | (with_reducible refine Calls.mono (HX.out _ hC) ?_; rintro e z1 ⟨rfl, hb1⟩; replace hC := Below.on hC hb1)
    | (with_reducible refine Calls.mono (HY.out _ hC) ?_; rintro e z1 ⟨rfl, hb1⟩; replace hC := Below.on hC hb1)
    | (with_reducible refine Calls.mono (HC.out _ hC) ?_; rintro e z1 ⟨rfl, hb1⟩; replace hC := Below.on hC hb1))
  all_goals
    go_wp2
    go_ret
    exact ⟨rfl, hC⟩
set_option maxRecDepth 100000 in
theorem cmpR_of {w : World} {bo bk bn : Nat} {ds : Bool} {vo vk : Value} (ho : CmpV w vo (fun x y => if ds then cmpVt y x else cmpVt x y)) (hk : KeyR w vk bn) (co : w.cell? ⟨bo, 0, none⟩ = some vo) (ck : w.cell? ⟨bk, 0, none⟩ = some vk) :
    CmpR w (.func (.func 73) #[] #[.pointer (some ⟨bo, 0, none⟩), .pointer (some ⟨bk, 0, none⟩)]) bn ds :=
  ⟨_, _, rfl, fun args w' => by rfl, fun x y a n c a2 n2 c2 Q w' hb hx hy h1 h2 => sorted1_any (ho.later hb) (hk.later hb) (cell_later hb co) (cell_later hb ck) hx hy h1 h2⟩

end Go.Proofs.YtnlaaejdianfjabGreat
