import Derived.Test.YtnlaaejdianfjaaGreatQfap
namespace Go.Proofs.YtnlaaejdianfjaaGreat
open Go.RowKit
set_option linter.unusedVariables false
set_option linter.unusedSimpArgs false

/-- What a tally is behind one more row. -/
def tkP (t : Ta) (r : List Vt) : Ta :=
  if t.2.2.2.2 ≠ 0 then t
  else if t.1 = 1 then (t.1, t.2.1, t.2.2.1 + 1, t.2.2.2)
  else if (atP r t.2.1.toNat).2 ≠ 0 then (t.1, t.2.1, t.2.2.1 + 1, t.2.2.2.1, (atP r t.2.1.toNat).2)
  else (t.1, t.2.1, t.2.2.1 + 1, (wiP (t.1, t.2.1, t.2.2.1 + 1, t.2.2.2.1, 0) (atP r t.2.1.toNat).1).1, (wiP (t.1, t.2.1, t.2.2.1 + 1, t.2.2.2.1, 0) (atP r t.2.1.toNat).1).2)
theorem Bk.st3' {w : World} {b : Nat} {x y z : Value} {t : TypeId} (h : Bk w b (.cells #[x, y, z] t)) (u v k : Value) : Bk (((w.setCell ⟨b, 0, none⟩ u).setCell ⟨b, 1, none⟩ v).setCell ⟨b, 2, none⟩ k) b (.cells #[u, v, k] t) := ⟨by simp [World.setCell, Array.getElem?_modify, h.row]⟩
theorem Bk.oth3 {w : World} {b q : Nat} {o : Obj} (h : Bk w b o) (hne : b ≠ q) (u v k : Value) : Bk (((w.setCell ⟨q, 0, none⟩ u).setCell ⟨q, 1, none⟩ v).setCell ⟨q, 2, none⟩ k) b o := ((h.oth (a := ⟨q, 0, none⟩) u hne).oth (a := ⟨q, 1, none⟩) v hne).oth (a := ⟨q, 2, none⟩) k hne
theorem But.set3b {g : Nat} {w w' : World} (h : But g w w') (o : Nat) (v : Value) : But g w (w'.setCell ⟨g, o, none⟩ v) := h.trans (But.set g o w' v)
theorem atP_mem {r : List Vt} {p : Nat} (h : (atP r p).2 = 0) : (atP r p).1 ∈ r := by
  unfold atP at *
  split
  · rename_i v hv; exact List.mem_of_getElem? hv
  · rename_i hv; rw [hv] at h; simp at h
set_option maxRecDepth 100000 in
set_option maxHeartbeats 8000000 in
theorem takeT_any {w : World} {b : Nat} {t : Ta} (hb : Bk w b (taO t)) (hp : 0 ≤ t.2.1) (hr0 : 0 ≤ t.2.2.1) (hr1 : t.2.2.1 ≤ 1000) {r : List Vt} {Q : Nat → Prop} {ra : Option Addr} {rn rc : Nat} (hr : RowIs eVal Q w (.slice ra rn rc) r) (hQ : ∀ k, Q k → k ≠ b) (ft : t.1 = 2 → Fits t.2.2.2.1.2.1 ∧ ∀ v ∈ r, Fits v.2.1) :
    Calls Tryz.prog 66 #[.pointer (some ⟨b, 0, none⟩), .slice ra rn rc] w fun e w' => (∃ v, e = .returned v) ∧ But b w w' ∧ Bk w' b (taO (tkP t r)) := by
  obtain ⟨t0, t1, t2, ⟨t3, t4, t5⟩, t6⟩ := t
  obtain ⟨p, rfl⟩ := Int.eq_ofNat_of_zero_le hp
  obtain ⟨n, rfl⟩ := Int.eq_ofNat_of_zero_le hr0
  have hn : n ≤ 1000 := by have : (n : Int) ≤ 1000 := hr1; omega
  have hwr := wrapS (k := n) (n := 1001) (c := 1001) (by omega) (Nat.le_refl _) (by decide)
  obtain ⟨T, hT⟩ : ∃ T, tkP (t0, (p : Int), (n : Int), (t3, t4, t5), t6) r = T := ⟨_, rfl⟩
  rw [hT]
  have HT : Hid _ := hid hT
  have hbl := hb.lt
  obtain ⟨d0, d1, d2, d3, d4, d5, d6⟩ := hb.taC
  dsimp only at d0 d1 d2 d3 d4 d5 d6
  clear hT hp hr0 hr1
  by_cases h6 : t6 = 0
  · subst h6
    have g2 := hb.free 2
    have bk1 := hb.ta2 ((n : Int) + 1)
    dsimp only at bk1
    have hbu1 := But.set b 2 w (.int .i64 ((n : Int) + 1))
    have hrw1 : RowIs eVal Q (w.setCell ⟨b, 2, none⟩ (.int .i64 ((n : Int) + 1))) (.slice ra rn rc) r := hr.keep (by decide) fun k hq hl => hbu1.block k hl (hQ k hq)
    by_cases h1 : t0 = 1
    · subst h1
      have hR : T = (1, (p : Int), (n : Int) + 1, (t3, t4, t5), 0) := by rw [← HT.out]; rfl
      subst hR
      obtain ⟨e0, e1, e2, e3, e4, e5, e6⟩ := bk1.taC
      dsimp only at e0 e1 e2 e3 e4 e5 e6
      have HQ : Hid _ := hid (And.intro hbu1 bk1)
      clear hr hrw1 hb HT bk1 hbu1 ft hQ
      go_enter Tryz.func66, Tryz.ntmps66
      go_upto_region 2 with fail
      generalize w.setCell ⟨b, 2, none⟩ (.int .i64 ((n : Int) + 1)) = W at *
      go_wp2
      refine bodyPost_ret (results_none rfl _ _ _) rfl ?_
      exact ⟨⟨_, rfl⟩, HQ.out⟩
    have k1 : decide (t0 = 1) = false := by simpa using h1
    have l1 : (t0 == 1) = false := by simpa using h1
    obtain ⟨q, hq⟩ : ∃ q, w.heap.size = q := ⟨_, rfl⟩
    have hs1 : (w.setCell ⟨b, 2, none⟩ (.int .i64 ((n : Int) + 1))).heap.size = q := by rw [← hq]; simp [World.setCell]
    go_enter Tryz.func66, Tryz.ntmps66
    go_upto_region 2 with fail
    generalize w.setCell ⟨b, 2, none⟩ (.int .i64 ((n : Int) + 1)) = W1 at *
    obtain ⟨e0, e1, e2, e3, e4, e5, e6⟩ := bk1.taC
    dsimp only at e0 e1 e2 e3 e4 e5 e6
    clear d0 d1 d2 d3 d4 d5 d6 g2 hr hb
    have hw := bal (Below.refl W1.heap.size W1) zV
    have bz : Bk (W1.alloc zV) q zV := hs1 ▸ Bk.new W1 zV
    have bk2 := bk1.later hw
    have hr2 := hrw1.keep (w' := W1.alloc zV) (by decide) fun k hq hl => hw.block k hl
    have hbu2 := hbu1.trans (But.of hw)
    clear bk1 hrw1 hbu1 hw e1 e2 e3 e4 e5 e6
    go_upto_region 4 with fail
    (try rw [hs1])
    generalize W1.alloc zV = W at *
    have hqs : q < W.heap.size := bz.lt
    have HAt : Hid _ := hid (atR_any hr2 p)
    obtain ⟨e0, e1, e2, e3, e4, e5, e6⟩ := bk2.taC
    dsimp only at e0 e1 e2 e3 e4 e5 e6
    have HMe : Hid ((atP r p).2 = 0 → (atP r p).1 ∈ r) := hid atP_mem
    have HTx : Hid (T = if (atP r p).2 ≠ 0 then (t0, (p : Int), (n : Int) + 1, (t3, t4, t5), (atP r p).2) else (t0, (p : Int), (n : Int) + 1, (wiP (t0, (p : Int), (n : Int) + 1, (t3, t4, t5), 0) (atP r p).1).1, (wiP (t0, (p : Int), (n : Int) + 1, (t3, t4, t5), 0) (atP r p).1).2)) := hid (by rw [← HT.out]; unfold tkP; rw [if_neg (by simp), if_neg h1, Int.toNat_natCast])
    generalize atP r p = A at *
    obtain ⟨⟨v0, v1, v2⟩, E⟩ := A
    dsimp only at HAt HTx HMe
    clear HT hr2
    go_wp2_with fail
    refine Calls.mono HAt.out ?_
    rintro e w2 ⟨rfl, hb2⟩
    have bz2 := bz.later hb2
    have bk3 := bk2.later hb2
    have hbu3 := hbu2.trans (But.of hb2)
    have hne : b ≠ q := by omega
    have hne2 : q ≠ b := by omega
    have hsz2 : q < w2.heap.size := bz2.lt
    have hbs2 := bk3.lt
    obtain ⟨c0, c1, c2⟩ := (⟨bz2.row⟩ : Bv w2 q 0 0 ⟨#[]⟩).cells
    obtain ⟨f0, f1, f2⟩ := (⟨bz2.row⟩ : Bv w2 q 0 0 ⟨#[]⟩).free
    obtain ⟨e0, e1, e2, e3, e4, e5, e6⟩ := bk3.taC
    dsimp only at e0 e1 e2 e3 e4 e5 e6
    have g6 := bk3.free 6
    have bz3 := (bz2.st3' (.int .i64 v0) (.int .i64 v1) (.string v2)).oth (a := ⟨b, 6, none⟩) (.int .i64 E) hne2
    have bk4 := (bk3.oth3 hne (.int .i64 v0) (.int .i64 v1) (.string v2)).ta6 E
    dsimp only at bk4
    have hbu4 := (hbu3.new3 (by omega : w.heap.size ≤ q) (.int .i64 v0) (.int .i64 v1) (.string v2)).set3b 6 (.int .i64 E)
    clear HAt bz bk2 hbu2 hb2 bz2 bk3 hbu3 e1 e2 e3 e4 e5
    go_upto_region 5 with fail
    generalize (((w2.setCell ⟨q, 0, none⟩ (.int .i64 v0)).setCell ⟨q, 1, none⟩ (.int .i64 v1)).setCell ⟨q, 2, none⟩ (.string v2)).setCell ⟨b, 6, none⟩ (.int .i64 E) = W5 at *
    obtain ⟨e0, e1, e2, e3, e4, e5, e6⟩ := bk4.taC
    dsimp only at e0 e1 e2 e3 e4 e5 e6
    clear c0 c1 c2 f0 f1 f2 g6
    by_cases h0 : E = 0
    · subst h0
      obtain ⟨c0, c1, c2⟩ := (⟨bz3.row⟩ : Bv W5 q v0 v1 v2).cells
      have HWi : Hid _ := hid (with_any bk4 (v0, v1, v2) (fun h => ⟨(ft h).1, (ft h).2 _ (HMe.out rfl)⟩))
      have hR := HTx.out
      rw [if_neg (by simp)] at hR
      generalize wiP (t0, (p : Int), (n : Int) + 1, (t3, t4, t5), 0) (v0, v1, v2) = X at *
      obtain ⟨⟨x0, x1, x2⟩, XE⟩ := X
      dsimp only at HWi hR
      subst hR
      clear HTx HMe ft e1 e2 e3 e4 e5
      go_wp2_with fail
      refine Calls.mono HWi.out ?_
      rintro e w6 ⟨rfl, hb6⟩
      have bk6 := bk4.later hb6
      have hbs6 := bk6.lt
      obtain ⟨e0, e1, e2, e3, e4, e5, e6⟩ := bk6.taC
      dsimp only at e0 e1 e2 e3 e4 e5 e6
      have g3 := bk6.free 3
      have g4 := bk6.free 4
      have g5 := bk6.free 5
      have g6 := bk6.free 6
      have HQ : Hid _ := hid (And.intro ((((hbu4.trans (But.of hb6)).set3b 3 (.int .i64 x0)).set3b 4 (.int .i64 x1)).set3b 5 (.string x2) |>.set3b 6 (.int .i64 XE)) ((bk6.ta3 (x0, x1, x2)).ta6 XE))
      clear HWi bk4 bk6 hbu4 hb6 c0 c1 c2 bz3
      go_wp2
      refine bodyPost_end (results_none rfl _ _ _) rfl ?_
      exact ⟨⟨_, rfl⟩, HQ.out⟩
    · have k0 : decide (E = 0) = false := by simpa using h0
      have l0 : (E == 0) = false := by simpa using h0
      have hR := HTx.out
      rw [if_pos h0] at hR
      subst hR
      have HQ : Hid _ := hid (And.intro hbu4 bk4)
      clear HTx HMe ft bk4 hbu4 bz3
      go_wp2
      refine bodyPost_end (results_none rfl _ _ _) rfl ?_
      exact ⟨⟨_, rfl⟩, HQ.out⟩
  · have k6 : decide (t6 = 0) = false := by simpa using h6
    have l6 : (t6 != 0) = true := by simpa using h6
    have hR : T = (t0, (p : Int), (n : Int), (t3, t4, t5), t6) := by rw [← HT.out]; unfold tkP; rw [if_pos h6]
    subst hR
    have HQ : Hid _ := hid (And.intro (But.refl b w) hb)
    clear HT hr hb ft
    go_enter Tryz.func66, Tryz.ntmps66
    go_wp2
    refine bodyPost_ret (results_none rfl _ _ _) rfl ?_
    exact ⟨⟨_, rfl⟩, HQ.out⟩

end Go.Proofs.YtnlaaejdianfjaaGreat
namespace Go.Proofs.YtnlaaejdianfjaaGreat
open Go.RowKit
set_option linter.unusedVariables false
set_option linter.unusedSimpArgs false

/-- Pointers in a row. -/
def ePt : Ek Nat := ⟨1, fun _ _ b cs => cs = [.pointer (some ⟨b, 0, none⟩)], fun _ h => h, fun _ h => h⟩
theorem ptr1 {Q : Nat → Prop} {w : World} {a : Option Addr} {n c : Nat} {l : List Nat} (h : RowIs ePt Q w (.slice a n c) l) {k : Nat} (hk : k < l.length) : ∃ b o, a = some ⟨b, o, none⟩ ∧ w.cell? ⟨b, o + k, none⟩ = some (.pointer (some ⟨l[k], 0, none⟩)) := by
  obtain ⟨ao, n', c', hv, hl, hn, hc, hx⟩ := h
  cases hv
  obtain ⟨b, o, rfl, hq, hi⟩ := hx (by omega)
  obtain ⟨cs, h1, h2, h3⟩ := hi k hk
  have h1' : cs = [.pointer (some ⟨l[k], 0, none⟩)] := h1
  subst h1'
  have := h3 0 (by simp)
  refine ⟨b, o, rfl, ?_⟩
  simpa [ePt] using this
theorem erL_zero : ∀ {l : List Int}, (∀ e ∈ l, e = 0) → erL l = 0
  | [], _ => rfl
  | e :: l, h => by rw [erL, if_pos (h e (List.mem_cons_self ..))]; exact erL_zero fun x hx => h x (List.mem_cons_of_mem _ hx)
theorem erL_hit {l : List Int} {k : Nat} (hk : k < l.length) (h0 : ∀ i (hi : i < l.length), i < k → l[i] = 0) (h1 : l[k] ≠ 0) : erL l = l[k] := by
  have e : l = l.take k ++ l[k] :: l.drop (k + 1) := by rw [← List.drop_eq_getElem_cons hk, List.take_append_drop]
  have hz : erL (l.take k) = 0 := erL_zero fun x hx => by
    obtain ⟨i, hi, rfl⟩ := List.mem_iff_getElem.1 hx
    rw [List.length_take] at hi
    rw [List.getElem_take]
    exact h0 i (by omega) (by omega)
  conv => lhs; rw [e]
  rw [erL_app, if_pos hz, erL, if_neg h1]
set_option maxRecDepth 100000 in
set_option maxHeartbeats 8000000 in
theorem eachT_any {bs : List Nat} {ts : List Ta} (hl : bs.length = ts.length) (hn5 : ts.length ≤ 500) {Q : Nat → Prop} {w : World} {a : Option Addr} {n c : Nat} (h : RowIs ePt Q w (.slice a n c) bs) (hT : ∀ i (h1 : i < bs.length) (h2 : i < ts.length), Bk w bs[i] (taO ts[i])) (hs : ∀ t ∈ ts, t.2.2.2.1.2.2.size ≤ 281474976710656) :
    Calls Tryz.prog 67 #[.slice a n c, .func (.func 68) #[] #[]] w fun e w' => ∃ a' n' c', e = .returned (.tuple #[.slice a' n' c', .int .i64 (erL (ts.map fun t => (toP t).2))]) ∧ Below w.heap.size w w' ∧ (erL (ts.map fun t => (toP t).2) = 0 → OwnR 44 3 w.heap.size w' (.slice a' n' c') (ts.map fun t => cVs (toP t).1)) := by
  obtain ⟨l1, l2, l3⟩ := row_lens h
  have HR : Hid (∀ w', Below w.heap.size w w' → RowIs ePt Q w' (.slice a n c) bs) := hid fun w' hb => h.keep (by decide) fun b _ hl => hb.block b hl
  have HTo : Hid (∀ w', Below w.heap.size w w' → ∀ i (h1 : i < bs.length) (h2 : i < ts.length), Calls Tryz.prog 68 #[.pointer (some ⟨bs[i], 0, none⟩)] w' fun e w'' => e = .returned (.tuple #[vV (toP ts[i]).1, .int .i64 (toP ts[i]).2]) ∧ Below w'.heap.size w' w'') := hid fun w' hb i h1 h2 => told_any ((hT i h1 h2).later hb) (hs _ (List.getElem_mem h2))
  have hcf : ∀ args w', (callFunc 68 args).run Tryz.prog w' = .ok (.enter 68 args) w' := fun args w' => by rfl
  obtain ⟨E, hE⟩ : ∃ E, erL (ts.map fun t => (toP t).2) = E := ⟨_, rfl⟩
  rw [hE]
  have HE : Hid _ := hid hE
  clear h hT hs hE
  obtain ⟨tj, hj1, hj2, hj3, hj4⟩ := info_parts Tryz.infoTVal
  go_enter Tryz.func67, Tryz.ntmps67
  go_upto_region 1 with fail
  go_wp2_with (first | (at_make; go_must (refine wpList_make_own w rfl _ _ 42 rfl w.heap.size 44 tj _ 3 Tryz.underlying42 hj1 hj2 hj3 .i64 .i64 (n : Int) n rfl rfl rfl (by rw [hj4]; omega) (by unfold maxLen; omega) (Nat.le_refl _) ?_)) | fail)
  intro w1 ho hg
  have hb1 : Below w.heap.size w w1 := below_grows (Below.refl _ _) (Nat.le_refl _) hg (by simp)
  have HT : Hid (OwnR 44 3 w.heap.size w1 (.slice (some ⟨w.heap.size, 0, none⟩) 0 n) [] ∧ ∀ i (hi : i < ts.length), i < 0 → (toP ts[i]).2 = 0) := hid ⟨⟨fun cs h => by simp at h, ho⟩, fun i _ h => absurd h (by omega)⟩
  clear ho hg
  go_wp2
  go_loopw [6, 16] (fun v6 v16 wr => ∃ (k : Nat) (va : Option Addr) (vd : Nat), k ≤ n ∧ v16 = .int .i64 k ∧ v6 = .slice va k vd ∧ Below w.heap.size w wr ∧ Hid (OwnR 44 3 w.heap.size wr (.slice va k vd) ((ts.take k).map fun t => cVs (toP t).1) ∧ ∀ i (hi : i < ts.length), i < k → (toP ts[i]).2 = 0)) (fun _ i _ => n - (intOf i).toNat)
  case atStart => exact ⟨0, _, _, Nat.zero_le _, rfl, rfl, hb1, HT⟩
  case round =>
    obtain ⟨k, va, vd, hk, rfl, rfl, hB, HK⟩ := hrel
    clear hb1 HT
    by_cases hlt : k < n
    · have h1 : k < bs.length := by omega
      have h2 : k < ts.length := by omega
      obtain ⟨b, o, rfl, x0⟩ := ptr1 (HR.out wr hB) h1
      have HTk : Hid _ := hid (HTo.out wr hB k h1 h2)
      obtain ⟨C, hC⟩ : ∃ C, (ts.take k).map (fun t => cVs (toP t).1) = C := ⟨_, rfl⟩
      obtain ⟨y, hy⟩ : ∃ y, toP ts[k] = y := ⟨_, rfl⟩
      have HN : Hid ((ts.take (k + 1)).map (fun t => cVs (toP t).1) = C ++ [cVs y.1] ∧ C.length = k) := hid ⟨by rw [List.take_succ_eq_append_getElem h2, List.map_append, hC, List.map_cons, List.map_nil, hy], by rw [← hC, List.length_map, List.length_take]; omega⟩
      have HEk : Hid (y.2 ≠ 0 → E = y.2) := hid fun hne => by
        rw [← HE.out]
        have := erL_hit (l := ts.map fun t => (toP t).2) (k := k) (by simpa using h2) (fun i hi hik => by rw [List.getElem_map]; exact HK.out.2 i (by simpa using hi) hik) (by rw [List.getElem_map, hy]; exact hne)
        rw [this, List.getElem_map, hy]
      have HZ : Hid (y.2 = 0 → ∀ i (hi : i < ts.length), i < k + 1 → (toP ts[i]).2 = 0) := hid fun h0 i hi hik => by
        by_cases e : i = k
        · subst e; rw [hy]; exact h0
        · exact HK.out.2 i hi (by omega)
      have hO := HK.out.1
      rw [hC] at hO
      rw [hy] at HTk
      obtain ⟨bk, hbk⟩ : ∃ bk, bs[k] = bk := ⟨_, rfl⟩
      rw [hbk] at x0 HTk
      obtain ⟨⟨y0, y1, y2⟩, e⟩ := y
      dsimp only at HTk HN HEk HZ
      have hkm : (k : Int) < (n : Int) := by omega
      have hwk := wrapS hlt l2 l3
      have HO : Hid _ := hid hO
      clear hC hy hO hbk HTo HR h1 h2 HK
      go_wp2_with fail
      refine Calls.mono HTk.out ?_
      rintro e' w4 ⟨rfl, hb4⟩
      have ho4 := (HO.out.later hb4).alloc (.cells #[.int .i64 y0, .int .i64 y1, .string y2] 44)
      have hZ4 := Below.on hB hb4
      have hZ5 := hZ4.alloc hZ4.size (.cells #[.int .i64 y0, .int .i64 y1, .string y2] 44)
      have by5 := Bk.new w4 (.cells #[.int .i64 y0, .int .i64 y1, .string y2] 44)
      have HO4 : Hid _ := hid ho4
      clear HTk HO hb4 x0 ho4
      go_upto_region 6 with fail
      generalize w4.alloc (.cells #[.int .i64 y0, .int .i64 y1, .string y2] 44) = W5 at *
      by_cases h0 : e = 0
      · subst h0
        have hZz := HZ.out rfl
        have d0 := by5.cell 0
        have d1 := by5.cell 1
        have d2 := by5.cell 2
        simp only [List.getElem?_toArray, List.getElem?_cons_zero, List.getElem?_cons_succ] at d0 d1 d2
        have ho5 := HO4.out.alloc (.cells #[.int .i64 y0, .int .i64 y1, .string y2] 44)
        have hblk := HO4.out.blk
        have hZ6 := hZ5.alloc hZ5.size (.cells #[.int .i64 y0, .int .i64 y1, .string y2] 44)
        have hZ6' : w.heap.size ≤ (W5.alloc (.cells #[.int .i64 y0, .int .i64 y1, .string y2] 44)).heap.size := hZ6.size
        have hcl : C.length ≤ 1000 := by have := HN.out.2; omega
        have HZz : Hid _ := hid hZz
        clear by5 HEk HZ HO4 hZz
        go_wp2_with (first | (at_builtin; go_must (refine wpList_appR Tryz.underlying42 Tryz.infoTVal rfl (by decide) (by decide) rfl (.tmp 29) (.tmp 31) rfl _ C W5.heap.size [.int .i64 y0, .int .i64 y1, .string y2] rfl rfl ho5 rfl (by simp [Value.oneCell']) (new3 W5 _ _ _ _) hcl hZ6' ?_)) | fail)
        intro v' w6 hO6 hg6 hown
        have hB7 := below_grows hZ6 hZ6' hg6 fun k e => (hblk k e).1
        obtain ⟨a2, m2, dd2, rfl⟩ := hO6.sl
        obtain rfl : m2 = k + 1 := by
          have := hO6.lenV
          rw [this, List.length_append, HN.out.2]; rfl
        have HQ : Hid (OwnR 44 3 w.heap.size w6 (.slice a2 (k + 1) dd2) ((ts.take (k + 1)).map fun t => cVs (toP t).1) ∧ ∀ i (hi : i < ts.length), i < k + 1 → (toP ts[i]).2 = 0) := hid ⟨by rw [HN.out.1]; exact hO6, HZz.out⟩
        clear hg6 hown ho5 hZ5 hZ6 hblk HN HZz hO6 d0 d1 d2
        go_wp2
        go_roundw
        case rel => exact ⟨k + 1, a2, _, by omega, by go_num, rfl, hB7, HQ⟩
        case measure => simp only [intOf]; omega
      · have k0 : decide (e = 0) = false := by simpa using h0
        have l0 : (e != 0) = true := by simpa using h0
        have hEe := HEk.out h0
        subst hEe
        clear HEk HZ HN HO4 by5
        go_wp2
        exact bodyPost_ret (v := .tuple #[.slice none 0 0, .int .i64 E]) (by simp [results, Tryz.results67]) rfl ⟨none, 0, 0, rfl, hZ5, fun h => absurd h h0⟩
    · obtain rfl : k = n := by omega
      have hE0 : E = 0 := by
        rw [← HE.out]
        exact erL_zero fun x hx => by
          obtain ⟨t, ht, rfl⟩ := List.mem_map.1 hx
          obtain ⟨i, hi, rfl⟩ := List.mem_iff_getElem.1 ht
          exact HK.out.2 i hi (by omega)
      subst hE0
      have hO := HK.out.1
      rw [List.take_of_length_le (by omega)] at hO
      have HO : Hid _ := hid hO
      have hkm : ¬ (k : Int) < (k : Int) := by omega
      clear HK hO HTo HR HE
      go_wp2
      exact bodyPost_ret (v := .tuple #[.slice va k vd, .int .i64 0]) (by simp [results, Tryz.results67]) rfl ⟨va, k, vd, rfl, hB, by first | exact fun _ => HO.out | exact HO.out⟩

end Go.Proofs.YtnlaaejdianfjaaGreat
namespace Go.Proofs.YtnlaaejdianfjaaGreat
open Go.RowKit
set_option linter.unusedVariables false
set_option linter.unusedSimpArgs false

theorem item1 {Q : Nat → Prop} {w : World} {a : Option Addr} {n c : Nat} {l : List It} (h : RowIs eItem Q w (.slice a n c) l) {k : Nat} (hk : k < l.length) : ∃ b o, a = some ⟨b, o, none⟩ ∧ w.cell? ⟨b, o + k * 3, none⟩ = some (.int .i64 l[k].1) ∧ w.cell? ⟨b, o + k * 3 + 1, none⟩ = some (.string l[k].2.1) ∧ w.cell? ⟨b, o + k * 3 + 2, none⟩ = some (.string l[k].2.2) := by
  obtain ⟨ao, n', c', hv, hl, hn, hc, hx⟩ := h
  cases hv
  obtain ⟨b, o, rfl, hq, hi⟩ := hx (by omega)
  obtain ⟨cs, h1, h2, h3⟩ := hi k hk
  have h1' : cs = [.int .i64 l[k].1, .string l[k].2.1, .string l[k].2.2] := h1
  subst h1'
  exact ⟨b, o, rfl, h3 0 (by simp), h3 1 (by simp), h3 2 (by simp)⟩
theorem fits00 : Fits 0 := by unfold Fits; decide
theorem size00 : (⟨#[]⟩ : ByteArray).size ≤ 281474976710656 := by decide
/-- What holds of a tally of n rows. -/
def TaK (n : Nat) (t : Ta) : Prop := 0 ≤ t.2.1 ∧ 0 ≤ t.2.2.1 ∧ t.2.2.1 ≤ (n : Int) ∧ Fits t.2.2.2.1.2.1 ∧ t.2.2.2.1.2.2.size ≤ 281474976710656
theorem plP_pos (C : List It) (tb nm : ByteArray) : 0 ≤ (plP C tb nm).1 := by
  unfold plP
  split
  · rename_i h
    unfold onlyB at h
    rw [Bool.and_eq_true, decide_eq_true_eq] at h
    exact h.1
  · exact Int.le_refl _
theorem taP_ok (C : List It) (x : It) : TaK 0 (taP C x) := by
  unfold taP
  split
  · exact ⟨Int.le_refl _, Int.le_refl _, Int.le_refl _, fits00, size00⟩
  · split
    · exact ⟨plP_pos _ _ _, Int.le_refl _, Int.le_refl _, fits00, size00⟩
    · exact ⟨Int.le_refl _, Int.le_refl _, Int.le_refl _, fits00, size00⟩
theorem wiP_ok {t : Ta} {v : Vt} (h1 : Fits t.2.2.2.1.2.1) (h2 : t.2.2.2.1.2.2.size ≤ 281474976710656) (h3 : Fits v.2.1) (h4 : v.2.2.size ≤ 281474976710656) : Fits (wiP t v).1.2.1 ∧ (wiP t v).1.2.2.size ≤ 281474976710656 := by
  unfold wiP
  split
  · unfold suP
    split
    · exact ⟨fits00, size00⟩
    · refine ⟨?_, size00⟩
      show Fits (nV _)
      unfold nV
      split
      · assumption
      · exact fits00
  · split
    · exact ⟨h3, h4⟩
    · split
      · dsimp only
        split
        · exact ⟨h3, h4⟩
        · exact ⟨h1, h2⟩
      · dsimp only
        split
        · exact ⟨h3, h4⟩
        · exact ⟨h1, h2⟩
theorem tkP_ok {n : Nat} {t : Ta} {r : List Vt} (h : TaK n t) (hr : ∀ v ∈ r, Fits v.2.1 ∧ v.2.2.size ≤ 281474976710656) : TaK (n + 1) (tkP t r) := by
  obtain ⟨h1, h2, h3, h4, h5⟩ := h
  unfold tkP
  split
  · exact ⟨h1, h2, by omega, h4, h5⟩
  · split
    · exact ⟨h1, by show 0 ≤ t.2.2.1 + 1; omega, by show t.2.2.1 + 1 ≤ ((n + 1 : Nat) : Int); omega, h4, h5⟩
    · split
      · exact ⟨h1, by show 0 ≤ t.2.2.1 + 1; omega, by show t.2.2.1 + 1 ≤ ((n + 1 : Nat) : Int); omega, h4, h5⟩
      · rename_i h6 h7 h8
        have hm := atP_mem (r := r) (p := t.2.1.toNat) (Classical.not_not.1 h8)
        have hw := wiP_ok (t := (t.1, t.2.1, t.2.2.1 + 1, t.2.2.2.1, 0)) (v := (atP r t.2.1.toNat).1) h4 h5 (hr _ hm).1 (hr _ hm).2
        exact ⟨h1, by show 0 ≤ t.2.2.1 + 1; omega, by show t.2.2.1 + 1 ≤ ((n + 1 : Nat) : Int); omega, hw.1, hw.2⟩
/-- All tallies behind these rows. -/
def stT (C : List It) (its : List It) (R : List (List Vt)) : List Ta := its.map fun x => R.foldl tkP (taP C x)
theorem stT_len (C its : List It) (R : List (List Vt)) : (stT C its R).length = its.length := List.length_map _
theorem stT_snoc (C its : List It) (R : List (List Vt)) (r : List Vt) : stT C its (R ++ [r]) = (stT C its R).map fun t => tkP t r := by
  unfold stT
  rw [List.map_map]
  exact List.map_congr_left fun x _ => by simp [List.foldl_append]
theorem foldl_ok (R : List (List Vt)) : ∀ {n : Nat} {t : Ta}, TaK n t → (∀ r ∈ R, ∀ v ∈ r, Fits v.2.1 ∧ v.2.2.size ≤ 281474976710656) → TaK (n + R.length) (R.foldl tkP t) := by
  induction R with
  | nil => exact fun h _ => h
  | cons r R ih =>
    intro n t h hr
    have := ih (tkP_ok h (hr r (List.mem_cons_self ..))) fun x hx => hr x (List.mem_cons_of_mem _ hx)
    rw [List.foldl_cons, List.length_cons, show n + (R.length + 1) = n + 1 + R.length by omega]
    exact this
theorem stT_ok {C its : List It} {R : List (List Vt)} (hr : ∀ r ∈ R, ∀ v ∈ r, Fits v.2.1 ∧ v.2.2.size ≤ 281474976710656) : ∀ t ∈ stT C its R, TaK R.length t := by
  intro t ht
  obtain ⟨x, hx, rfl⟩ := List.mem_map.1 ht
  have := foldl_ok R (taP_ok C x) hr
  rwa [Nat.zero_add] at this
/-- The first j of them have taken r. -/
def upT (ts : List Ta) (r : List Vt) (j : Nat) : List Ta := (ts.take j).map (fun t => tkP t r) ++ ts.drop j
theorem upT_zero (ts : List Ta) (r : List Vt) : upT ts r 0 = ts := by simp [upT]
theorem upT_len (ts : List Ta) (r : List Vt) (j : Nat) : (upT ts r j).length = ts.length := by simp [upT, List.length_take, List.length_drop]; omega
theorem upT_at {ts : List Ta} {r : List Vt} {j : Nat} (hj : j < ts.length) (h : j < (upT ts r j).length) : (upT ts r j)[j] = ts[j] := by
  have e : (upT ts r j)[j]? = ts[j]? := by
    unfold upT
    rw [List.getElem?_append_right (by rw [List.length_map, List.length_take]; omega), List.getElem?_drop]
    congr 1
    rw [List.length_map, List.length_take]; omega
  rw [List.getElem?_eq_getElem h, List.getElem?_eq_getElem hj] at e
  exact Option.some.inj e
theorem upT_set {ts : List Ta} {r : List Vt} {j : Nat} (hj : j < ts.length) : (upT ts r j).set j (tkP ts[j] r) = upT ts r (j + 1) := by
  unfold upT
  rw [List.drop_eq_getElem_cons hj, List.take_succ_eq_append_getElem hj, List.map_append, List.set_append_right _ _ (by rw [List.length_map, List.length_take]; omega)]
  have : j - ((ts.take j).map fun t => tkP t r).length = 0 := by rw [List.length_map, List.length_take]; omega
  rw [this, List.set_cons_zero]
  simp
theorem upT_all (ts : List Ta) (r : List Vt) : upT ts r ts.length = ts.map fun t => tkP t r := by simp [upT]
abbrev ptC (b : Nat) : List Value := [.pointer (some ⟨b, 0, none⟩)]
/-- Tallies in memory, each in a block of its own. -/
structure Tas (B : Nat) (w : World) (bs : List Nat) (ts : List Ta) : Prop where
  len : bs.length = ts.length
  inj : ∀ i j (hi : i < bs.length) (hj : j < bs.length), bs[i] = bs[j] → i = j
  at' : ∀ i (h1 : i < bs.length) (h2 : i < ts.length), B ≤ bs[i] ∧ Bk w bs[i] (taO ts[i])
theorem Tas.nil (B : Nat) (w : World) : Tas B w [] [] := ⟨rfl, fun i j hi => absurd hi (by simp), fun i h1 => absurd h1 (by simp)⟩
theorem Tas.mono {B : Nat} {w w' : World} {bs : List Nat} {ts : List Ta} (h : Tas B w bs ts) (hk : ∀ i (h1 : i < bs.length) (h2 : i < ts.length), Bk w' bs[i] (taO ts[i])) : Tas B w' bs ts := ⟨h.len, h.inj, fun i h1 h2 => ⟨(h.at' i h1 h2).1, hk i h1 h2⟩⟩
theorem Tas.later {B : Nat} {w w' : World} {bs : List Nat} {ts : List Ta} (h : Tas B w bs ts) (hb : Below w.heap.size w w') : Tas B w' bs ts := h.mono fun i h1 h2 => (h.at' i h1 h2).2.later hb
theorem Tas.gr {B B' : Nat} {w w' : World} {bs : List Nat} {ts : List Ta} (h : Tas B w bs ts) (hg : Gr B' w w') : Tas B w' bs ts := h.mono fun i h1 h2 => (h.at' i h1 h2).2.gr hg
theorem Tas.grown {B : Nat} {w w' : World} {bs : List Nat} {ts : List Ta} {row : Option Nat} (h : Tas B w bs ts) (hg : w.grownBy w' row) (hr : ∀ i (h1 : i < bs.length), some bs[i] ≠ row) : Tas B w' bs ts := h.mono fun i h1 h2 => (h.at' i h1 h2).2.grown hg (hr i h1)
theorem Tas.oth {B : Nat} {w : World} {bs : List Nat} {ts : List Ta} (h : Tas B w bs ts) {a : Addr} (v : Value) (ha : a.block < B) : Tas B (w.setCell a v) bs ts := h.mono fun i h1 h2 => (h.at' i h1 h2).2.oth v (by have := (h.at' i h1 h2).1; omega)
theorem Tas.snoc {B : Nat} {w : World} {bs : List Nat} {ts : List Ta} (h : Tas B w bs ts) {b : Nat} {t : Ta} (hB : B ≤ b) (hb : Bk w b (taO t)) (hn : ∀ i (h1 : i < bs.length), bs[i] ≠ b) : Tas B w (bs ++ [b]) (ts ++ [t]) := by
  have hl := h.len
  refine ⟨by simp [hl], fun i j hi hj e => ?_, fun i h1 h2 => ?_⟩
  · rw [List.length_append] at hi hj
    simp only [List.length_cons, List.length_nil] at hi hj
    by_cases h1 : i < bs.length
    · rw [List.getElem_append_left h1] at e
      by_cases h2 : j < bs.length
      · rw [List.getElem_append_left h2] at e
        exact h.inj i j h1 h2 e
      · rw [List.getElem_append_right (by omega)] at e
        simp at e
        exact absurd e (hn i h1)
    · rw [List.getElem_append_right (by omega)] at e
      by_cases h2 : j < bs.length
      · rw [List.getElem_append_left h2] at e
        simp at e
        exact absurd e.symm (hn j h2)
      · omega
  · by_cases h3 : i < bs.length
    · rw [List.getElem_append_left h3, List.getElem_append_left (by omega)]
      exact h.at' i h3 (by omega)
    · rw [List.length_append] at h1
      simp only [List.length_cons, List.length_nil] at h1
      rw [List.getElem_append_right (by omega), List.getElem_append_right (by omega)]
      simp
      exact ⟨hB, hb⟩
theorem Tas.but {B : Nat} {w w' : World} {bs : List Nat} {ts : List Ta} (h : Tas B w bs ts) {j : Nat} (hj : j < bs.length) {t : Ta} (hb : But bs[j] w w') (hk : Bk w' bs[j] (taO t)) : Tas B w' bs (ts.set j t) := by
  refine ⟨by rw [List.length_set]; exact h.len, h.inj, fun i h1 h2 => ?_⟩
  rw [List.length_set] at h2
  obtain ⟨p1, p2⟩ := h.at' i h1 h2
  refine ⟨p1, ?_⟩
  by_cases e : i = j
  · subst e
    rw [List.getElem_set_self]
    exact hk
  · rw [List.getElem_set_ne (fun x => e x.symm)]
    exact ⟨(hb.block _ p2.lt fun x => e (h.inj i j h1 hj x)).trans p2.row⟩
theorem OwnR.ne_bk {ty k B : Nat} {w : World} {v : Value} {css : List (List Value)} (h : OwnR ty k B w v css) {b : Nat} {arr : Array Value} {t : TypeId} {mk : Nat × Nat} (hb : Bk w b (.cells arr t mk)) (hne : t ≠ ty) : some b ≠ v.ownBlock := fun e => by
  rcases h.2.2 with ⟨rfl, _⟩ | ⟨g, cap, cur, rfl, hg, hh, _⟩
  · cases e
  · cases e
    have := hb.row.symm.trans hh
    cases this
    exact hne rfl
theorem OwnR.butN {ty k B g : Nat} {w w' : World} {v : Value} {css : List (List Value)} (h : OwnR ty k B w v css) (hb : But g w w') (hne : some g ≠ v.ownBlock) : OwnR ty k B w' v css := by
  refine ⟨h.1, h.2.1, ?_⟩
  rcases h.2.2 with q | ⟨b, cap, cur, hv, hB, hh, r⟩
  · exact .inl q
  · refine .inr ⟨b, cap, cur, hv, hB, (hb.block b (Array.getElem?_eq_some_iff.1 hh).1 fun e => hne ?_).trans hh, r⟩
    subst e
    rw [hv]; rfl
theorem OwnR.setP {ty k B r o : Nat} {w : World} {v x : Value} {css : List (List Value)} (h : OwnR ty k B w v css) (hne : v.ownBlock ≠ some r) : OwnR ty k B (w.setCell ⟨r, o, none⟩ x) v css := by
  refine ⟨h.1, h.2.1, ?_⟩
  rcases h.2.2 with k | ⟨b, cap, cur, hv, hg', hh, rr⟩
  · exact .inl k
  · refine .inr ⟨b, cap, cur, hv, hg', ?_, rr⟩
    rw [Below.heap_setCell _ _ _ _ (fun e => hne (by rw [hv]; exact congrArg some e))]
    exact hh
theorem Bk.butN {w w' : World} {b g : Nat} {o : Obj} (h : Bk w b o) (hb : But g w w') (hne : b ≠ g) : Bk w' b o := ⟨(hb.block b h.lt hne).trans h.row⟩
theorem Bk.one {w : World} {b : Nat} {v : Value} {t : TypeId} {mk : Nat × Nat} (h : Bk w b (.cells #[v] t mk)) : w.cell? ⟨b, 0, none⟩ = some v := by rw [h.cell]; rfl
theorem Bk.it {w : World} {b : Nat} {x0 : Int} {x1 x2 : ByteArray} {t : TypeId} {mk : Nat × Nat} (h : Bk w b (.cells #[.int .i64 x0, .string x1, .string x2] t mk)) : w.cell? ⟨b, 0, none⟩ = some (.int .i64 x0) ∧ w.cell? ⟨b, 1, none⟩ = some (.string x1) ∧ w.cell? ⟨b, 2, none⟩ = some (.string x2) := by
  refine ⟨?_, ?_, ?_⟩ <;> (rw [h.cell]; rfl)
theorem Kps.but {n B g : Nat} {X Y : World} (h : But g X Y) (hn : n ≤ g) (hx : n ≤ X.heap.size) (hp : ∀ o, X.heap[g]? = some o → prt o = false) : Kps n B X Y :=
  ⟨But.below (Below.refl _ _) h hn hx, fun k o _ ho hc => by
    have hl := (Array.getElem?_eq_some_iff.1 ho).1
    by_cases e : k = g
    · subst e
      rw [hp o ho] at hc; cases hc
    · exact (h.block k hl e).trans ho⟩
theorem Tryz.infoTPt : (Tryz.prog.info? 127).map (fun i => (i.zero, i.size, i.bytes)) = some (some (.pointer none), 1, 8) := by kernel_rfl
theorem own_pts {B : Nat} {w : World} {v : Value} {bs : List Nat} (h : OwnR 127 1 B w v (bs.map ptC)) : RowIs ePt (fun _ => True) w v bs := OwnR.rowE (e := ePt) h (by simp) (fun _ _ _ => trivial) fun i h1 h2 => by
  show _ = _
  simp
theorem prt_ta (t : Ta) : prt (taO t) = false := by
  show decide (164 = 124) = false
  rfl

end Go.Proofs.YtnlaaejdianfjaaGreat
