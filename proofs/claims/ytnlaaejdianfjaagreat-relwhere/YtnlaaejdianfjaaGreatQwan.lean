import Derived.Test.YtnlaaejdianfjaaGreatQwaj
import Derived.Test.YtnlaaejdianfjaaGreatQwam
namespace Go.Proofs.YtnlaaejdianfjaaGreat
open Go.RowKit
set_option linter.unusedVariables false
set_option linter.unusedSimpArgs false

/-- The column that the document means. -/
def idxs (n : Nat) : List Int := (List.range n).map fun i : Nat => (i : Int)
def colR (C : List It) (V : List Vt) (tb nm : ByteArray) : Vt × Int := if (clmK (pairP C (idxs V.length)) tb nm).2 = 0 then ((V[(clmK (pairP C (idxs V.length)) tb nm).1.toNat]?).getD vZ, 0) else (vZ, 10)
theorem idxs_len (n : Nat) : (idxs n).length = n := by simp [idxs]
theorem colR_at {C : List It} {V : List Vt} {tb nm : ByteArray} {r e : Int} (h : atR C V.length tb nm r e) : (∃ q : Nat, ∃ hq : q < V.length, r = q ∧ e = 0 ∧ colR C V tb nm = (V[q], 0)) ∨ (e = 10 ∧ colR C V tb nm = (vZ, 10)) := by
  rcases h (idxs V.length) (idxs_len _) with ⟨q, hq, rfl, rfl, hc⟩ | ⟨rfl, rfl, hc⟩
  · have hq' : q < V.length := by rw [idxs_len] at hq; exact hq
    refine .inl ⟨q, hq', rfl, rfl, ?_⟩
    have e1 : (idxs V.length)[q] = (q : Int) := by simp [idxs]
    unfold colR
    rw [hc, e1]
    show (if (0 : Int) = 0 then _ else _) = _
    rw [if_pos rfl]
    show ((V[((q : Int)).toNat]?).getD vZ, 0) = _
    rw [Int.toNat_natCast, List.getElem?_eq_getElem hq']
    rfl
  · refine .inr ⟨rfl, ?_⟩
    unfold colR
    rw [hc]
    rfl
def rfA (op : Int) (r0 r1 : Vt × Int) : Vt × Int := if r0.2 ≠ 0 then (vZ, r0.2) else if op = 3 then numE (-r0.1.2.1) else if op = 4 then (trV (decide (r0.1.2.1 = 0)), 0) else if op = 14 ∧ r0.1.2.1 = 0 then (trV false, 0) else if op = 15 ∧ r0.1.2.1 = 1 then (trV true, 0) else if r1.2 ≠ 0 then (vZ, r1.2) else rTwo op r0.1 r1.1
def rf1 (C : List It) (V : List Vt) (p : Pg) (rs : List (Vt × Int)) : Vt × Int := if p.1 = 1 then ((p.2.1, p.2.2.1, p.2.2.2.1), 0) else if p.1 = 2 then colR C V p.2.2.2.2.1 p.2.2.2.2.2 else rfA p.1 (rs.headD (vZ, 0)) (rs.tail.headD (vZ, 0))
/-- Every part has as many parts as it must have; numbers fit, texts are not too long. -/
def wfF : Tg → Prop
  | .nil => True
  | .node _ _ p l r => (((toL l).length : Int) = partsP p.1 ∧ Gd (p.2.1, p.2.2.1, p.2.2.2.1) ∧ wfF l) ∧ wfF r
def wfT (x : Pg × Tg) : Prop := ((toL x.2).length : Int) = partsP x.1.1 ∧ Gd (x.1.2.1, x.1.2.2.1, x.1.2.2.2.1) ∧ wfF x.2
def rfs (C : List It) (V : List Vt) : Tg → List (Vt × Int)
  | .nil => []
  | .node _ _ p l r => rf1 C V p (rfs C V l) :: rfs C V r
/-- What the document says an expression comes to. -/
def rfT (C : List It) (V : List Vt) (t : Pg × Tg) : Vt × Int := rf1 C V t.1 (rfs C V t.2)
theorem rfs_map (C : List It) (V : List Vt) : ∀ f : Tg, rfs C V f = (toL f).map (rfT C V) := by
  intro f
  induction f with
  | nil => rfl
  | node x y p l r ihl ihr => rw [rfs, toL, List.map_cons, ← ihr]; rfl
theorem wf_mem : ∀ {f : Tg}, wfF f → ∀ y ∈ toL f, wfT y := by
  intro f
  induction f with
  | nil => intro _ y hy; simp [toL] at hy
  | node a b p l r ihl ihr =>
    rintro ⟨h1, h3⟩ y hy
    rw [toL, List.mem_cons] at hy
    rcases hy with rfl | hy
    · exact h1
    · exact ihr h3 y hy
theorem wf_ftF : ∀ {f : Tg}, wfF f → ftF f := by
  intro f
  induction f with
  | nil => intro _; trivial
  | node a b p l r ihl ihr => exact fun h => ⟨h.1.2.1.1, ihl h.1.2.2, ihr h.2⟩
theorem wf_ft {x : Pg × Tg} (h : wfT x) : ftT x := ⟨h.2.1.1, wf_ftF h.2.2⟩
theorem gd_numE (z : Int) : Gd (numE z).1 := by
  unfold numE
  split
  · exact gd_z
  · exact gd_num _
theorem rf1_gd {C : List It} {V : List Vt} (hV : ∀ v ∈ V, Gd v) {p : Pg} (hp : Gd (p.2.1, p.2.2.1, p.2.2.2.1)) {rs : List (Vt × Int)} : Gd (rf1 C V p rs).1 := by
  unfold rf1
  split
  · exact hp
  split
  · unfold colR
    split
    · cases h : V[(clmK (pairP C (idxs V.length)) p.2.2.2.2.1 p.2.2.2.2.2).1.toNat]? with
      | none => exact gd_z
      | some v => exact hV v (List.mem_of_getElem? h)
    · exact gd_z
  unfold rfA
  split
  · exact gd_z
  split
  · exact gd_numE _
  split
  · exact gd_tr _
  split
  · exact gd_tr _
  split
  · exact gd_tr _
  split
  · exact gd_z
  · exact rTwo_gd _ _ _
theorem rfT_gd {C : List It} {V : List Vt} (hV : ∀ v ∈ V, Gd v) {x : Pg × Tg} (hx : wfT x) : Gd (rfT C V x).1 := rf1_gd hV hx.2.1
theorem rfT_lit {C : List It} {V : List Vt} {x : Pg × Tg} (h1 : x.1.1 = 1) : rfT C V x = ((x.1.2.1, x.1.2.2.1, x.1.2.2.2.1), 0) := by unfold rfT rf1; rw [if_pos h1]
theorem rfT_col {C : List It} {V : List Vt} {x : Pg × Tg} (h2 : x.1.1 = 2) : rfT C V x = colR C V x.1.2.2.2.2.1 x.1.2.2.2.2.2 := by unfold rfT rf1; rw [if_neg (by omega), if_pos h2]
theorem rfT_one {C : List It} {V : List Vt} {x u : Pg × Tg} (h1 : x.1.1 ≠ 1) (h2 : x.1.1 ≠ 2) (hl : toL x.2 = [u]) : rfT C V x = rfA x.1.1 (rfT C V u) (vZ, 0) := by
  unfold rfT rf1; rw [if_neg h1, if_neg h2, rfs_map, hl]; rfl
theorem rfT_two {C : List It} {V : List Vt} {x u v : Pg × Tg} (h1 : x.1.1 ≠ 1) (h2 : x.1.1 ≠ 2) (hl : toL x.2 = [u, v]) : rfT C V x = rfA x.1.1 (rfT C V u) (rfT C V v) := by
  unfold rfT rf1; rw [if_neg h1, if_neg h2, rfs_map, hl]; rfl
theorem eG_at {Q : Nat → Prop} {w : World} {ao : Option Addr} {n c : Nat} {l : List (Pg × Tg)} (h : RowIs eG Q w (.slice ao n c) l) {k : Nat} (hk : k < l.length) : ∃ b o ea en ec, ao = some ⟨b, o, none⟩ ∧ eG.E Q w l[k] [.int .i64 l[k].1.1, .int .i64 l[k].1.2.1, .int .i64 l[k].1.2.2.1, .string l[k].1.2.2.2.1, .string l[k].1.2.2.2.2.1, .string l[k].1.2.2.2.2.2, .slice ea en ec] ∧ w.cell? ⟨b, o + k * 7, none⟩ = some (.int .i64 l[k].1.1) ∧ w.cell? ⟨b, o + k * 7 + 1, none⟩ = some (.int .i64 l[k].1.2.1) ∧ w.cell? ⟨b, o + k * 7 + 2, none⟩ = some (.int .i64 l[k].1.2.2.1) ∧ w.cell? ⟨b, o + k * 7 + 3, none⟩ = some (.string l[k].1.2.2.2.1) ∧ w.cell? ⟨b, o + k * 7 + 4, none⟩ = some (.string l[k].1.2.2.2.2.1) ∧ w.cell? ⟨b, o + k * 7 + 5, none⟩ = some (.string l[k].1.2.2.2.2.2) ∧ w.cell? ⟨b, o + k * 7 + 6, none⟩ = some (.slice ea en ec) := by
  obtain ⟨_, _, _, e, h1, h2, h3, h4⟩ := h
  cases e
  obtain ⟨b, o, e, hq, hi⟩ := h4 (by omega)
  obtain ⟨cs, hE, hl, hc⟩ := hi k hk
  have hE' := hE
  obtain ⟨ea, en, ec, rfl, -⟩ := hE'
  exact ⟨b, o, ea, en, ec, e, hE, hc 0 (show 0 < 7 by decide), hc 1 (show 1 < 7 by decide), hc 2 (show 2 < 7 by decide), hc 3 (show 3 < 7 by decide), hc 4 (show 4 < 7 by decide), hc 5 (show 5 < 7 by decide), hc 6 (show 6 < 7 by decide)⟩
/-- What the document's Eval tells of an expression. -/
def RvC (C : List It) (V : List Vt) (x : Pg × Tg) : Prop := ∀ (Q : Nat → Prop) (w : World) (cs : List Value) (a : Option Addr) (n c : Nat) (a2 : Option Addr) (n2 c2 : Nat), RowIs eItem (fun _ => True) w (.slice a n c) C → RowIs eVal (fun _ => True) w (.slice a2 n2 c2) V → eG.E Q w x cs → Calls Tryz.prog 39 #[.slice a n c, .slice a2 n2 c2, .agg cs.toArray] w fun en w' => en = .returned (.tuple #[vV (rfT C V x).1, .int .i64 (rfT C V x).2]) ∧ Below w.heap.size w w'
set_option maxRecDepth 100000 in
set_option maxHeartbeats 8000000 in
theorem rv_step {C : List It} {V : List Vt} (hlen : C.length ≤ 500) (hCV : C.length = V.length) (hVg : ∀ v ∈ V, Gd v) (x : Pg × Tg) (hwf : wfT x) (ih : ∀ y ∈ toL x.2, RvC C V y) : RvC C V x := by
  intro Q w cs a n c a2 n2 c2 hC hV hx
  have hEx' := hx
  obtain ⟨ea, en, ec, rfl, hsl⟩ := hEx'
  have hlenx := hsl.1
  have hec := hsl.2.1
  have hecm := hsl.2.2.1
  simp only [exC] at *
  obtain ⟨m1, m2, m3⟩ := row_lens hV
  have hw := bal (bal (Below.refl w.heap.size w) (.cells #[.int .i64 x.1.1, .int .i64 x.1.2.1, .int .i64 x.1.2.2.1, .string x.1.2.2.2.1, .string x.1.2.2.2.2.1, .string x.1.2.2.2.2.2, .slice ea en ec] 63)) zV
  have bx : Bk ((w.alloc (.cells #[.int .i64 x.1.1, .int .i64 x.1.2.1, .int .i64 x.1.2.2.1, .string x.1.2.2.2.1, .string x.1.2.2.2.2.1, .string x.1.2.2.2.2.2, .slice ea en ec] 63)).alloc zV) w.heap.size (.cells #[.int .i64 x.1.1, .int .i64 x.1.2.1, .int .i64 x.1.2.2.1, .string x.1.2.2.2.1, .string x.1.2.2.2.2.1, .string x.1.2.2.2.2.2, .slice ea en ec] 63) := (Bk.new w _).later (bal (Below.refl _ _) _)
  have hz : Bv ((w.alloc (.cells #[.int .i64 x.1.1, .int .i64 x.1.2.1, .int .i64 x.1.2.2.1, .string x.1.2.2.2.1, .string x.1.2.2.2.2.1, .string x.1.2.2.2.2.2, .slice ea en ec] 63)).alloc zV) (w.heap.size + 1) 0 0 ⟨#[]⟩ := by
    have := Bv.new (w.alloc (.cells #[.int .i64 x.1.1, .int .i64 x.1.2.1, .int .i64 x.1.2.2.1, .string x.1.2.2.2.1, .string x.1.2.2.2.2.1, .string x.1.2.2.2.2.2, .slice ea en ec] 63))
    rwa [World.size_alloc] at this
  generalize hW : (w.alloc (.cells #[.int .i64 x.1.1, .int .i64 x.1.2.1, .int .i64 x.1.2.2.1, .string x.1.2.2.2.1, .string x.1.2.2.2.2.1, .string x.1.2.2.2.2.2, .slice ea en ec] 63)).alloc zV = W at hw bx hz
  have hC1 : Hid (∀ w', Below W.heap.size W w' → RowIs eItem (fun _ => True) w' (.slice a n c) C) := hid fun w' hb => hC.keep (by decide) fun b _ hl => (Below.on hw hb).block b hl
  have hV1 : Hid (∀ w', Below W.heap.size W w' → RowIs eVal (fun _ => True) w' (.slice a2 n2 c2) V) := hid fun w' hb => hV.keep (by decide) fun b _ hl => (Below.on hw hb).block b hl
  have hA1 : Hid (∀ w', Below W.heap.size W w' → RowIs eG Q w' (.slice ea en ec) (toL x.2)) := hid fun w' hb => hsl.row.keep (by decide) fun b _ hl => (Below.on hw hb).block b hl
  have HEv : Hid (∀ y ∈ toL x.2, ∀ (cs2 : List Value) w', Below W.heap.size W w' → eG.E Q w' y cs2 → _) := hid fun y hy cs2 w' hb hx2 => ih y hy Q w' cs2 a n c a2 n2 c2 (hC1.out w' hb) (hV1.out w' hb) hx2
  have HAt : Hid (∀ w', Below W.heap.size W w' → _) := hid fun w' hb => at_any hlen n2 (Nat.le_trans m2 m3) x (hC1.out w' hb) ea en ec
  have hpv := parts_vals x.1.1
  have hwl := hwf.1
  have HGd : Hid (∀ y ∈ toL x.2, Gd (rfT C V y).1) := hid fun y hy => rfT_gd hVg (wf_mem hwf.2.2 y hy)
  have H1 : Hid (x.1.1 = 1 → rfT C V x = ((x.1.2.1, x.1.2.2.1, x.1.2.2.2.1), 0)) := hid rfT_lit
  have H2 : Hid (x.1.1 = 2 → rfT C V x = colR C V x.1.2.2.2.2.1 x.1.2.2.2.2.2) := hid rfT_col
  have H3 : Hid (∀ u, x.1.1 ≠ 1 → x.1.1 ≠ 2 → toL x.2 = [u] → rfT C V x = rfA x.1.1 (rfT C V u) (vZ, 0)) := hid fun u h1 h2 h3 => rfT_one h1 h2 h3
  have H4 : Hid (∀ u v, x.1.1 ≠ 1 → x.1.1 ≠ 2 → toL x.2 = [u, v] → rfT C V x = rfA x.1.1 (rfT C V u) (rfT C V v)) := hid fun u v h1 h2 h3 => rfT_two h1 h2 h3
  obtain ⟨K, hK⟩ : ∃ K, rfT C V x = K := ⟨_, rfl⟩
  rw [hK] at H1 H2 H3 H4 ⊢
  have HCR : Hid (∀ r e, atR C n2 x.1.2.2.2.2.1 x.1.2.2.2.2.2 r e → (∃ q : Nat, ∃ hq : q < V.length, r = q ∧ e = 0 ∧ colR C V x.1.2.2.2.2.1 x.1.2.2.2.2.2 = (V[q], 0)) ∨ (e = 10 ∧ colR C V x.1.2.2.2.2.1 x.1.2.2.2.2.2 = (vZ, 10))) := hid fun r e h => colR_at (by rw [m1]; exact h)
  clear hx hsl hC hV ih hC1 hK hwf hVg
  have d0 := bx.cell 0
  have d1 := bx.cell 1
  have d2 := bx.cell 2
  have d3 := bx.cell 3
  have d4 := bx.cell 4
  have d5 := bx.cell 5
  have d6 := bx.cell 6
  simp only [List.getElem?_toArray, List.getElem?_cons_zero, List.getElem?_cons_succ] at d0 d1 d2 d3 d4 d5 d6
  clear bx
  obtain ⟨⟨op, k1, k2, k3, k4, k5⟩, f⟩ := x
  dsimp only at *
  by_cases h1 : op = 1
  · have hK := H1.out h1
    subst h1
    have hB := hw
    clear H1 H2 H3 H4 HEv HAt HCR HGd hA1 hV1 hw
    go_enter Tryz.func39, Tryz.ntmps39
    obtain ⟨c0, c1, c2⟩ := hz.cells
    obtain ⟨f0, f1, f2⟩ := hz.free
    have hl := hz.lt
    clear hz
    go_wp2
    exact bodyPost_ret (v := .tuple #[vV (k1, k2, k3), .int .i64 0]) (by simp [results, Tryz.results39, go_sem, c0, c1, c2]) rfl ⟨by first | rw [hK] | rfl, below3 hB (by omega) _ _ _⟩
  have g1 : decide (op = 1) = false := by simpa using h1
  by_cases h2 : op = 2
  · have hK := H2.out h2
    subst h2
    have HA2 : Hid _ := hid (HAt.out W (Below.refl _ _))
    clear H1 H2 H3 H4 HEv HAt HGd hA1
    go_enter Tryz.func39, Tryz.ntmps39
    go_wp2_with fail
    refine Calls.mono HA2.out ?_
    rintro e w4 ⟨r, er, rfl, har, hb4⟩
    have hB := Below.on hw hb4
    replace hz := hz.later hb4
    have hVr := hV1.out w4 hb4
    rcases HCR.out r er har with ⟨q, hq, rfl, rfl, hc⟩ | ⟨rfl, hc⟩
    · rw [hc] at hK
      obtain ⟨vb, vo, rfl, -, e0, e1, e2⟩ := val1 hVr hq
      obtain ⟨X, hX⟩ : ∃ X, V[q] = X := ⟨_, rfl⟩
      rw [hX] at e0 e1 e2 hK
      have hqn : (q : Int) < (n2 : Int) := by omega
      have hq5 : q ≤ 500 := by omega
      clear HA2 HCR hV1 hb4 har hc hX hw hVr hW
      obtain ⟨c0, c1, c2⟩ := hz.cells
      obtain ⟨f0, f1, f2⟩ := hz.free
      have hl := hz.lt
      clear hz
      go_wp2
      exact bodyPost_ret (v := .tuple #[vV X, .int .i64 0]) (by simp [results, Tryz.results39, go_sem, c0, c1, c2]) rfl ⟨by first | rw [hK] | rfl, below3 hB (by omega) _ _ _⟩
    · rw [hc] at hK
      clear HA2 HCR hV1 hb4 har hc hw hVr hW
      obtain ⟨c0, c1, c2⟩ := hz.cells
      obtain ⟨f0, f1, f2⟩ := hz.free
      have hl := hz.lt
      clear hz
      go_wp2
      exact bodyPost_ret (v := .tuple #[vV vZ, .int .i64 10]) (by simp [results, Tryz.results39, go_sem, c0, c1, c2]) rfl ⟨by first | rw [hK] | rfl, below3 hB (by omega) _ _ _⟩
  have g2 : decide (op = 2) = false := by simpa using h2
  have h0n : 0 < (toL f).length := by omega
  obtain ⟨b, o, fa, fn, fc, hea, uE, u0, u1, u2, u3, u4, u5, u6⟩ := eG_at (hA1.out W (Below.refl _ _)) h0n
  obtain ⟨U, hU⟩ : ∃ U, (toL f)[0] = U := ⟨_, rfl⟩
  rw [hU] at uE u0 u1 u2 u3 u4 u5
  have hUm : U ∈ toL f := by rw [← hU]; exact List.getElem_mem h0n
  have gA := HGd.out U hUm
  simp only [Nat.zero_mul, Nat.add_zero] at u0 u1 u2 u3 u4 u5 u6
  have HX := HEv.out U hUm _ W (Below.refl _ _) uE
  have hr0 : ∃ r1, (K = rfA op (rfT C V U) r1) ∧ ((op = 3 ∨ op = 4) ∨ (5 ≤ op ∧ op ≤ 15 ∧ ∃ h : 1 < (toL f).length, r1 = rfT C V (toL f)[1])) := by
    rcases hpv with h | ⟨h, _⟩ | ⟨h, hp⟩ | ⟨h, hp⟩
    · omega
    · omega
    · have hl1 : (toL f).length = 1 := by omega
      obtain ⟨u, hf⟩ : ∃ u, toL f = [u] := by
        match toL f, hl1 with
        | [u], _ => exact ⟨u, rfl⟩
      refine ⟨(vZ, 0), ?_, .inl h⟩
      rw [H3.out u h1 h2 hf]
      simp only [hf, List.getElem_cons_zero] at hU
      rw [hU]
    · have hl2 : (toL f).length = 2 := by omega
      obtain ⟨u, v, hf⟩ : ∃ u v, toL f = [u, v] := by
        match toL f, hl2 with
        | [u, v], _ => exact ⟨u, v, rfl⟩
      refine ⟨rfT C V v, ?_, .inr ⟨h.1, h.2, by omega, ?_⟩⟩
      · rw [H4.out u v h1 h2 hf]
        simp only [hf, List.getElem_cons_zero] at hU
        rw [hU]
      · simp only [hf, List.getElem_cons_succ, List.getElem_cons_zero]
  obtain ⟨r1, hKr, hops⟩ := hr0
  clear H1 H2 H3 H4 HAt HCR uE hV1 hpv hwl
  obtain ⟨A, hA⟩ : ∃ A, rfT C V U = A := ⟨_, rfl⟩
  rw [hA] at HX hKr gA
  replace HX : Hid _ := hid HX
  clear hA
  subst hea
  have hen0 : (0 : Int) < (en : Int) := by omega
  obtain ⟨⟨q0, q1, q2, q3, q4, q5⟩, qf⟩ := U
  dsimp only at *
  go_enter Tryz.func39, Tryz.ntmps39
  go_wp2_with fail
  refine Calls.mono HX.out ?_
  rintro e w4 ⟨rfl, hb4⟩
  have hb5 := bal hb4 (.cells #[.int .i64 A.1.1, .int .i64 A.1.2.1, .string A.1.2.2] 44)
  have bA := Bk.new w4 (.cells #[.int .i64 A.1.1, .int .i64 A.1.2.1, .string A.1.2.2] 44)
  have hq4 := hb4.size
  go_upto_region 10 with fail
  generalize w4.alloc (.cells #[.int .i64 A.1.1, .int .i64 A.1.2.1, .string A.1.2.2] 44) = W5 at *
  have hB := Below.on hw hb5
  replace hz := hz.later hb5
  obtain ⟨qa, hqa⟩ : ∃ qa, w4.heap.size = qa := ⟨_, rfl⟩
  rw [hqa] at bA
  (try rw [hqa])
  have a0 := bA.cell 0
  have a1 := bA.cell 1
  have a2 := bA.cell 2
  simp only [List.getElem?_toArray, List.getElem?_cons_zero, List.getElem?_cons_succ] at a0 a1 a2
  replace d0 := cell_later hb5 d0
  replace d1 := cell_later hb5 d1
  replace d2 := cell_later hb5 d2
  replace d3 := cell_later hb5 d3
  replace d4 := cell_later hb5 d4
  replace d5 := cell_later hb5 d5
  replace d6 := cell_later hb5 d6
  clear HX hb4 bA u0 u1 u2 u3 u4 u5 u6 hW hq4 hqa
  obtain ⟨⟨A0, A1, A2⟩, AE⟩ := A
  dsimp only at *
  by_cases hAE : AE = 0
  · subst hAE
    have hKr2 : K = if op = 3 then numE (-A1) else if op = 4 then (trV (decide (A1 = 0)), 0) else if op = 14 ∧ A1 = 0 then (trV false, 0) else if op = 15 ∧ A1 = 1 then (trV true, 0) else if r1.2 ≠ 0 then (vZ, r1.2) else rTwo op (A0, A1, A2) r1.1 := by rw [hKr, rfA, if_neg (by simp)]
    clear hKr
    by_cases h3 : op = 3
    · rw [if_pos h3] at hKr2
      subst h3
      have HN : Hid _ := hid (refNeg_any A1 gA.1)
      have HG1 : Hid (nE (-A1) ≠ 0 → K = (vZ, nE (-A1))) := hid fun h => by rw [hKr2, numE, if_pos h]
      have HG0 : Hid (nE (-A1) = 0 → K = ((1, nV (-A1), ⟨#[]⟩), 0)) := hid fun h => by rw [hKr2, numE, if_neg (by simpa using h)]
      rw [nA_eq] at HN
      generalize nV (-A1) = z1 at *
      generalize nE (-A1) = z2 at *
      clear hKr2 HEv HGd hA1 hops hb5
      go_wp2_with fail
      refine Calls.mono (HN.out _) ?_
      rintro e w6 ⟨rfl, rfl⟩
      clear HN
      by_cases hE : z2 = 0
      · have hK := HG0.out hE
        subst hE
        clear HG0 HG1
        obtain ⟨c0, c1, c2⟩ := hz.cells
        obtain ⟨f0, f1, f2⟩ := hz.free
        have hl := hz.lt
        clear hz
        go_wp2
        exact bodyPost_ret (v := .tuple #[vV (1, z1, ⟨#[]⟩), .int .i64 0]) (by simp [results, Tryz.results39, go_sem, c0, c1, c2]) rfl ⟨by first | rw [hK] | rfl, below3 hB (by omega) _ _ _⟩
      · have hK := HG1.out hE
        have ge : decide (z2 = 0) = false := by simpa using hE
        have gn : (z2 != 0) = true := by simpa using hE
        clear HG0 HG1
        obtain ⟨c0, c1, c2⟩ := hz.cells
        obtain ⟨f0, f1, f2⟩ := hz.free
        have hl := hz.lt
        clear hz
        go_wp2
        exact bodyPost_ret (v := .tuple #[vV vZ, .int .i64 z2]) (by simp [results, Tryz.results39, go_sem, c0, c1, c2]) rfl ⟨by first | rw [hK] | rfl, below3 hB (by omega) _ _ _⟩
    have g3 : decide (op = 3) = false := by simpa using h3
    rw [if_neg h3] at hKr2
    by_cases h4 : op = 4
    · rw [if_pos h4] at hKr2
      subst h4
      have HT : Hid _ := hid (truthR_any (decide (A1 = 0)))
      obtain ⟨DD, hD⟩ : ∃ DD, decide (A1 = 0) = DD := ⟨_, rfl⟩
      have hD2 : (A1 == 0) = DD := by rw [← hD]; rfl
      rw [hD] at HT hKr2
      have hK := hKr2
      clear hKr2 HEv HGd hA1 hops hb5
      go_wp2_with fail
      refine Calls.mono (HT.out _) ?_
      rintro e w6 ⟨rfl, hb6⟩
      replace hB := Below.on hB hb6
      replace hz := hz.later hb6
      clear HT hb6 hD hD2
      obtain ⟨c0, c1, c2⟩ := hz.cells
      obtain ⟨f0, f1, f2⟩ := hz.free
      have hl := hz.lt
      clear hz
      go_wp2
      exact bodyPost_ret (v := .tuple #[vV (trV DD), .int .i64 0]) (by simp [results, Tryz.results39, go_sem, c0, c1, c2]) rfl ⟨by first | rw [hK] | rfl, below3 hB (by omega) _ _ _⟩
    have g4 : decide (op = 4) = false := by simpa using h4
    rw [if_neg h4] at hKr2
    by_cases h14 : op = 14 ∧ A1 = 0
    · rw [if_pos h14] at hKr2
      obtain ⟨rfl, rfl⟩ := h14
      have hK := hKr2
      have HT : Hid _ := hid (truthR_any false)
      clear hKr2 HEv HGd hA1 hops hb5
      go_wp2_with fail
      refine Calls.mono (HT.out _) ?_
      rintro e w6 ⟨rfl, hb6⟩
      replace hB := Below.on hB hb6
      replace hz := hz.later hb6
      clear HT hb6
      obtain ⟨c0, c1, c2⟩ := hz.cells
      obtain ⟨f0, f1, f2⟩ := hz.free
      have hl := hz.lt
      clear hz
      go_wp2
      exact bodyPost_ret (v := .tuple #[vV (trV false), .int .i64 0]) (by simp [results, Tryz.results39, go_sem, c0, c1, c2]) rfl ⟨by first | rw [hK] | rfl, below3 hB (by omega) _ _ _⟩
    rw [if_neg h14] at hKr2
    by_cases h15 : op = 15 ∧ A1 = 1
    · rw [if_pos h15] at hKr2
      obtain ⟨rfl, rfl⟩ := h15
      have hK := hKr2
      have HT : Hid _ := hid (truthR_any true)
      clear hKr2 HEv HGd hA1 hops hb5
      go_wp2_with fail
      refine Calls.mono (HT.out _) ?_
      rintro e w6 ⟨rfl, hb6⟩
      replace hB := Below.on hB hb6
      replace hz := hz.later hb6
      clear HT hb6
      obtain ⟨c0, c1, c2⟩ := hz.cells
      obtain ⟨f0, f1, f2⟩ := hz.free
      have hl := hz.lt
      clear hz
      go_wp2
      exact bodyPost_ret (v := .tuple #[vV (trV true), .int .i64 0]) (by simp [results, Tryz.results39, go_sem, c0, c1, c2]) rfl ⟨by first | rw [hK] | rfl, below3 hB (by omega) _ _ _⟩
    rw [if_neg h15] at hKr2
    have hop2 : 5 ≤ op ∧ op ≤ 15 ∧ ∃ h : 1 < (toL f).length, r1 = rfT C V (toL f)[1] := by
      rcases hops with h | h
      · omega
      · exact h
    obtain ⟨h5, h5', h1n, rfl⟩ := hop2
    clear hops
    obtain ⟨b', o', ga, gn, gc, hea', vE, v0, v1, v2, v3, v4, v5, v6⟩ := eG_at (hA1.out W5 hb5) h1n
    cases hea'
    obtain ⟨VV, hVV⟩ : ∃ VV, (toL f)[1] = VV := ⟨_, rfl⟩
    rw [hVV] at vE v0 v1 v2 v3 v4 v5 hKr2
    have hVm : VV ∈ toL f := by rw [← hVV]; exact List.getElem_mem h1n
    have gB := HGd.out VV hVm
    simp only [Nat.one_mul] at v0 v1 v2 v3 v4 v5 v6
    have HX2 := HEv.out VV hVm _ W5 hb5 vE
    obtain ⟨B, hBB⟩ : ∃ B, rfT C V VV = B := ⟨_, rfl⟩
    rw [hBB] at HX2 hKr2 gB
    replace HX2 : Hid _ := hid HX2
    have HTw : Hid _ := hid (refTwo_any h5 h5' gA gB)
    have hen1 : (1 : Int) < (en : Int) := by omega
    clear HEv HGd hA1 hBB vE hb5 hVV hVm gA gB
    obtain ⟨⟨r0, r1, r2, r3, r4, r5⟩, rf⟩ := VV
    dsimp only at *
    by_cases e14 : op = 14
    · have hne : ¬ A1 = 0 := fun h => h14 ⟨e14, h⟩
      have gne : decide (A1 = 0) = false := by simpa using hne
      have gne2 : (A1 == 0) = false := by simpa using hne
      subst e14
      go_wp2_with fail
      refine Calls.mono HX2.out ?_
      rintro e w6 ⟨rfl, hb6⟩
      have hb7 := bal (Below.refl _ _) (.cells #[.int .i64 B.1.1, .int .i64 B.1.2.1, .string B.1.2.2] 44) (a := w6)
      have bB := Bk.new w6 (.cells #[.int .i64 B.1.1, .int .i64 B.1.2.1, .string B.1.2.2] 44)
      go_upto_region 27 with fail
      generalize w6.alloc (.cells #[.int .i64 B.1.1, .int .i64 B.1.2.1, .string B.1.2.2] 44) = W7 at *
      replace hB := Below.on (Below.on hB hb6) hb7
      replace hz := (hz.later hb6).later hb7
      replace a0 := cell_later hb7 (cell_later hb6 a0)
      replace a1 := cell_later hb7 (cell_later hb6 a1)
      replace a2 := cell_later hb7 (cell_later hb6 a2)
      replace d0 := cell_later hb7 (cell_later hb6 d0)
      obtain ⟨qb, hqb⟩ : ∃ qb, w6.heap.size = qb := ⟨_, rfl⟩
      rw [hqb] at bB
      (try rw [hqb])
      have b0 := bB.cell 0
      have b1 := bB.cell 1
      have b2 := bB.cell 2
      simp only [List.getElem?_toArray, List.getElem?_cons_zero, List.getElem?_cons_succ] at b0 b1 b2
      clear HX2 bB v0 v1 v2 v3 v4 v5 v6 hqb hb6 hb7 d1 d2 d3 d4 d5 d6
      obtain ⟨⟨B0, B1, B2⟩, BE⟩ := B
      dsimp only at *
      by_cases hBE : BE = 0
      · subst hBE
        have hK : K = rTwo 14 (A0, A1, A2) (B0, B1, B2) := by rw [hKr2, if_neg (by simp)]
        rw [← hK] at HTw
        clear hKr2
        go_wp2_with fail
        refine Calls.mono (HTw.out _) ?_
        rintro e w8 ⟨rfl, hb8⟩
        replace hB := Below.on hB hb8
        replace hz := hz.later hb8
        clear HTw hb8 hK
        have hK : K = K := rfl
        obtain ⟨c0, c1, c2⟩ := hz.cells
        obtain ⟨f0, f1, f2⟩ := hz.free
        have hl := hz.lt
        clear hz
        go_wp2
        exact bodyPost_ret (v := .tuple #[vV K.1, .int .i64 K.2]) (by simp [results, Tryz.results39, go_sem, c0, c1, c2]) rfl ⟨by first | rw [hK] | rfl, below3 hB (by omega) _ _ _⟩
      · have hK : K = (vZ, BE) := by rw [hKr2, if_pos hBE]
        have ge : decide (BE = 0) = false := by simpa using hBE
        have gn : (BE != 0) = true := by simpa using hBE
        clear hKr2 HTw
        obtain ⟨c0, c1, c2⟩ := hz.cells
        obtain ⟨f0, f1, f2⟩ := hz.free
        have hl := hz.lt
        clear hz
        go_wp2
        exact bodyPost_ret (v := .tuple #[vV vZ, .int .i64 BE]) (by simp [results, Tryz.results39, go_sem, c0, c1, c2]) rfl ⟨by first | rw [hK] | rfl, below3 hB (by omega) _ _ _⟩
    have k14 : decide (op = 14) = false := by simpa using e14
    by_cases e15 : op = 15
    · have hne : ¬ A1 = 1 := fun h => h15 ⟨e15, h⟩
      have gne : decide (A1 = 1) = false := by simpa using hne
      have gne2 : (A1 == 1) = false := by simpa using hne
      subst e15
      go_wp2_with fail
      refine Calls.mono HX2.out ?_
      rintro e w6 ⟨rfl, hb6⟩
      have hb7 := bal (Below.refl _ _) (.cells #[.int .i64 B.1.1, .int .i64 B.1.2.1, .string B.1.2.2] 44) (a := w6)
      have bB := Bk.new w6 (.cells #[.int .i64 B.1.1, .int .i64 B.1.2.1, .string B.1.2.2] 44)
      go_upto_region 27 with fail
      generalize w6.alloc (.cells #[.int .i64 B.1.1, .int .i64 B.1.2.1, .string B.1.2.2] 44) = W7 at *
      replace hB := Below.on (Below.on hB hb6) hb7
      replace hz := (hz.later hb6).later hb7
      replace a0 := cell_later hb7 (cell_later hb6 a0)
      replace a1 := cell_later hb7 (cell_later hb6 a1)
      replace a2 := cell_later hb7 (cell_later hb6 a2)
      replace d0 := cell_later hb7 (cell_later hb6 d0)
      obtain ⟨qb, hqb⟩ : ∃ qb, w6.heap.size = qb := ⟨_, rfl⟩
      rw [hqb] at bB
      (try rw [hqb])
      have b0 := bB.cell 0
      have b1 := bB.cell 1
      have b2 := bB.cell 2
      simp only [List.getElem?_toArray, List.getElem?_cons_zero, List.getElem?_cons_succ] at b0 b1 b2
      clear HX2 bB v0 v1 v2 v3 v4 v5 v6 hqb hb6 hb7 d1 d2 d3 d4 d5 d6
      obtain ⟨⟨B0, B1, B2⟩, BE⟩ := B
      dsimp only at *
      by_cases hBE : BE = 0
      · subst hBE
        have hK : K = rTwo 15 (A0, A1, A2) (B0, B1, B2) := by rw [hKr2, if_neg (by simp)]
        rw [← hK] at HTw
        clear hKr2
        go_wp2_with fail
        refine Calls.mono (HTw.out _) ?_
        rintro e w8 ⟨rfl, hb8⟩
        replace hB := Below.on hB hb8
        replace hz := hz.later hb8
        clear HTw hb8 hK
        have hK : K = K := rfl
        obtain ⟨c0, c1, c2⟩ := hz.cells
        obtain ⟨f0, f1, f2⟩ := hz.free
        have hl := hz.lt
        clear hz
        go_wp2
        exact bodyPost_ret (v := .tuple #[vV K.1, .int .i64 K.2]) (by simp [results, Tryz.results39, go_sem, c0, c1, c2]) rfl ⟨by first | rw [hK] | rfl, below3 hB (by omega) _ _ _⟩
      · have hK : K = (vZ, BE) := by rw [hKr2, if_pos hBE]
        have ge : decide (BE = 0) = false := by simpa using hBE
        have gn : (BE != 0) = true := by simpa using hBE
        clear hKr2 HTw
        obtain ⟨c0, c1, c2⟩ := hz.cells
        obtain ⟨f0, f1, f2⟩ := hz.free
        have hl := hz.lt
        clear hz
        go_wp2
        exact bodyPost_ret (v := .tuple #[vV vZ, .int .i64 BE]) (by simp [results, Tryz.results39, go_sem, c0, c1, c2]) rfl ⟨by first | rw [hK] | rfl, below3 hB (by omega) _ _ _⟩
    have k15 : decide (op = 15) = false := by simpa using e15
    go_wp2_with fail
    refine Calls.mono HX2.out ?_
    rintro e w6 ⟨rfl, hb6⟩
    have hb7 := bal (Below.refl _ _) (.cells #[.int .i64 B.1.1, .int .i64 B.1.2.1, .string B.1.2.2] 44) (a := w6)
    have bB := Bk.new w6 (.cells #[.int .i64 B.1.1, .int .i64 B.1.2.1, .string B.1.2.2] 44)
    go_upto_region 27 with fail
    generalize w6.alloc (.cells #[.int .i64 B.1.1, .int .i64 B.1.2.1, .string B.1.2.2] 44) = W7 at *
    replace hB := Below.on (Below.on hB hb6) hb7
    replace hz := (hz.later hb6).later hb7
    replace a0 := cell_later hb7 (cell_later hb6 a0)
    replace a1 := cell_later hb7 (cell_later hb6 a1)
    replace a2 := cell_later hb7 (cell_later hb6 a2)
    replace d0 := cell_later hb7 (cell_later hb6 d0)
    obtain ⟨qb, hqb⟩ : ∃ qb, w6.heap.size = qb := ⟨_, rfl⟩
    rw [hqb] at bB
    (try rw [hqb])
    have b0 := bB.cell 0
    have b1 := bB.cell 1
    have b2 := bB.cell 2
    simp only [List.getElem?_toArray, List.getElem?_cons_zero, List.getElem?_cons_succ] at b0 b1 b2
    clear HX2 bB v0 v1 v2 v3 v4 v5 v6 hqb hb6 hb7 d1 d2 d3 d4 d5 d6
    obtain ⟨⟨B0, B1, B2⟩, BE⟩ := B
    dsimp only at *
    by_cases hBE : BE = 0
    · subst hBE
      have hK : K = rTwo op (A0, A1, A2) (B0, B1, B2) := by rw [hKr2, if_neg (by simp)]
      rw [← hK] at HTw
      clear hKr2
      go_wp2_with fail
      refine Calls.mono (HTw.out _) ?_
      rintro e w8 ⟨rfl, hb8⟩
      replace hB := Below.on hB hb8
      replace hz := hz.later hb8
      clear HTw hb8 hK
      have hK : K = K := rfl
      obtain ⟨c0, c1, c2⟩ := hz.cells
      obtain ⟨f0, f1, f2⟩ := hz.free
      have hl := hz.lt
      clear hz
      go_wp2
      exact bodyPost_ret (v := .tuple #[vV K.1, .int .i64 K.2]) (by simp [results, Tryz.results39, go_sem, c0, c1, c2]) rfl ⟨by first | rw [hK] | rfl, below3 hB (by omega) _ _ _⟩
    · have hK : K = (vZ, BE) := by rw [hKr2, if_pos hBE]
      have ge : decide (BE = 0) = false := by simpa using hBE
      have gn : (BE != 0) = true := by simpa using hBE
      clear hKr2 HTw
      obtain ⟨c0, c1, c2⟩ := hz.cells
      obtain ⟨f0, f1, f2⟩ := hz.free
      have hl := hz.lt
      clear hz
      go_wp2
      exact bodyPost_ret (v := .tuple #[vV vZ, .int .i64 BE]) (by simp [results, Tryz.results39, go_sem, c0, c1, c2]) rfl ⟨by first | rw [hK] | rfl, below3 hB (by omega) _ _ _⟩
  · have hK : K = (vZ, AE) := by rw [hKr, rfA, if_pos hAE]
    have ge : decide (AE = 0) = false := by simpa using hAE
    have gn : (AE != 0) = true := by simpa using hAE
    clear hKr HEv HGd hA1 hops hb5
    obtain ⟨c0, c1, c2⟩ := hz.cells
    obtain ⟨f0, f1, f2⟩ := hz.free
    have hl := hz.lt
    clear hz
    go_wp2
    exact bodyPost_ret (v := .tuple #[vV vZ, .int .i64 AE]) (by simp [results, Tryz.results39, go_sem, c0, c1, c2]) rfl ⟨by first | rw [hK] | rfl, below3 hB (by omega) _ _ _⟩
theorem rv_all {C : List It} {V : List Vt} (hlen : C.length ≤ 500) (hCV : C.length = V.length) (hVg : ∀ v ∈ V, Gd v) : ∀ f : Tg, wfF f → ∀ x ∈ toL f, RvC C V x := by
  intro f
  induction f with
  | nil => intro _ x hx; simp [toL] at hx
  | node a b p l r ihl ihr =>
    rintro ⟨h1, h3⟩ x hx
    rw [toL, List.mem_cons] at hx
    rcases hx with rfl | hx
    · exact rv_step hlen hCV hVg (p, l) h1 (ihl h1.2.2)
    · exact ihr h3 x hx
theorem rv_any {C : List It} {V : List Vt} (hlen : C.length ≤ 500) (hCV : C.length = V.length) (hVg : ∀ v ∈ V, Gd v) (x : Pg × Tg) (hwf : wfT x) : RvC C V x := rv_step hlen hCV hVg x hwf (rv_all hlen hCV hVg x.2 hwf.2.2)

end Go.Proofs.YtnlaaejdianfjaaGreat
