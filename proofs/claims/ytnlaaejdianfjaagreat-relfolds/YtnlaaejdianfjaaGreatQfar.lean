import Derived.Test.YtnlaaejdianfjaaGreatQfaq
import Derived.Test.YtnlaaejdianfjaaGreatQfan
namespace Go.Proofs.YtnlaaejdianfjaaGreat
open Go.RowKit Go.Shelf
set_option linter.unusedVariables false
set_option linter.unusedSimpArgs false
attribute [local go_sem] Oper.semAt_some

theorem wp_normal {P : Program} {c : Code} {Q : Exit → Act → World → Prop} {a : Act} {w : World} (h : c.wp P (fun e a' w' => e = .normal ∧ Q .normal a' w') a w) : c.wp P Q a w := wp_mono h (by rintro e a w ⟨rfl, h⟩; exact h)
/-- range_any with the act that a round begins at told by what turns. -/
theorem range_at {P : Program} {g : Operand} {ps : Array Tmp} {assign body : Code} {Q : Exit → Act → World → Prop} {a : Act} {w : World} {gf : Nat} {lb : Array Value} {N : Nat} {A : Nat → Nat → World → Array Value → Prop} {w0 : World} (f : Array Value → Array Value → Array Value)
    (hg : a.eval g = .func (.func gf) #[] lb) (eg : ∀ args w, (callFunc gf args).run P w = .ok (.enter gf args) w) (hseq : SeqW P gf lb N A w0) (hb0 : Below w0.heap.size w0 w)
    (hA : ∀ {k s s' W W' xs}, A k s W xs → s' ≤ s → Gr 0 W W' → A k s' W' xs ∧ xs.size = ps.size)
    (I : Nat → World → Prop) (Ix : Code → Nat → World → Prop) (h0 : I 0 w)
    (has : ∀ (l : Nat) (xs : Array Value) (W : World) (K : Act → World → Prop), (∃ k s V, A k s V xs) → K { tmps := f a.tmps xs, defers := [] } W → assign.wpIn (Fence.wide.inRound l) 0 P (Exit.then K (fun _ _ _ => False)) { tmps := (ps.zip xs).foldl (fun t (p, v) => t.setIfInBounds p v) a.tmps, defers := [] } W)
    (hbo : ∀ (l k : Nat) (V W : World) (xs : Array Value), k < N → I k V → Gr w.heap.size V W → Below w0.heap.size w0 W → A k V.heap.size W xs → body.wpIn (Fence.wide.inRound l) 0 P (rndP w0.heap.size w.heap.size I Ix (k + 1) W) { tmps := f a.tmps xs, defers := [] } W)
    (hdone : ∀ (D : Nat) (V W : World), w.heap.size ≤ D → I N V → Gr w.heap.size V W → Below w0.heap.size w0 W → W.heap[D]? = some (.deferred (some [])) → Q .normal { a with defers := { target := .collected D, args := #[] } :: a.defers } W)
    (hstop : ∀ (D : Nat) (c : Code) (k : Nat) (V W : World), w.heap.size ≤ D → k ≤ N → Ix c k V → Gr w.heap.size V W → Below w0.heap.size w0 W → W.heap[D]? = some (.deferred (some [])) → c.wpIn Fence.wide 0 P Q { a with defers := { target := .collected D, args := #[] } :: a.defers } W) :
    (Code.rangeFunc g ps assign body).wpIn Fence.wide 0 P Q a w :=
  range_any hg eg hseq hb0 hA I Ix h0 (fun xs => { tmps := f a.tmps xs, defers := [] }) has hbo hdone hstop
/-- The error of a folded select, and its row. -/
def foE (C its : List It) (G : List (List Vt) × Int) : Int := if G.2 ≠ 0 then G.2 else erL ((stT C its G.1).map fun t => (toP t).2)
def foR (C its : List It) (G : List (List Vt) × Int) : List Vt := (stT C its G.1).map fun t => (toP t).1
set_option maxRecDepth 100000 in
set_option maxHeartbeats 16000000 in
theorem folded_any {C : List It} (hlen : C.length ≤ 500) {its : List It} (hi5 : its.length ≤ 500) {Q Qi : Nat → Prop} {w : World} {ia : Option Addr} {iN ic : Nat} (hC : RowIs eItem Q w (.slice ia iN ic) C) {ta : Option Addr} {tn tc : Nat} (hI : RowIs eItem Qi w (.slice ta tn tc) its)
    {gf : Nat} {lb : Array Value} {G : List (List Vt) × Int} (eg : ∀ args w, (callFunc gf args).run Tryz.prog w = .ok (.enter gf args) w) (hl : G.1.length ≤ 500) (hs : SeqW Tryz.prog gf lb (fndN G) (A2 w.heap.size G) w) (hft : ∀ r ∈ G.1, ∀ v ∈ r, Fits v.2.1 ∧ v.2.2.size ≤ 281474976710656) :
    Calls Tryz.prog 36 #[.slice ia iN ic, .slice ta tn tc, .func (.func gf) #[] lb] w (TeSel w (foE C its G) [foR C its G]) := by
  have hw := bal (bal (bal (Below.refl w.heap.size w) (.cells #[.slice none 0 0] 36)) (.cells #[.int .i64 0] 38)) (.cells #[.slice none 0 0] 126)
  have b0 := ((Bk.new w (.cells #[.slice none 0 0] 36)).later (bal (Below.refl _ _) (.cells #[.int .i64 0] 38))).later (bal (Below.refl _ _) (.cells #[.slice none 0 0] 126))
  have b1 := (Bk.new (w.alloc (.cells #[.slice none 0 0] 36)) (.cells #[.int .i64 0] 38)).later (bal (Below.refl _ _) (.cells #[.slice none 0 0] 126))
  have b8 := Bk.new ((w.alloc (.cells #[.slice none 0 0] 36)).alloc (.cells #[.int .i64 0] 38)) (.cells #[.slice none 0 0] 126)
  have hsz : (((w.alloc (.cells #[.slice none 0 0] 36)).alloc (.cells #[.int .i64 0] 38)).alloc (.cells #[.slice none 0 0] 126)).heap.size = w.heap.size + 3 := by simp
  rw [World.size_alloc] at b1
  rw [World.size_alloc, World.size_alloc] at b8
  obtain ⟨l1, l2, l3⟩ := row_lens hI
  have HIt : Hid (∀ w', Below w.heap.size w w' → RowIs eItem Qi w' (.slice ta tn tc) its) := hid fun w' hb => hI.keep (by decide) fun b _ hl => hb.block b hl
  have HTl0 : Hid (∀ (x : It) w', Below w.heap.size w w' → Calls Tryz.prog 65 #[.slice ia iN ic, .agg #[.int .i64 x.1, .string x.2.1, .string x.2.2]] w' fun e w'' => ∃ b, e = .returned (.pointer (some ⟨b, 0, none⟩)) ∧ w'.heap.size ≤ b ∧ Bk w'' b (taO (taP C x)) ∧ Below w'.heap.size w' w'') := hid fun x w' hb => tallyOf_any hlen x (hC.keep (by decide) fun b _ hl => hb.block b hl)
  have hss : Hid (SeqW Tryz.prog gf lb (fndN G) (A2 w.heap.size G) w) := hid hs
  have HFt : Hid _ := hid hft
  clear hs hI hC hft
  refine (callsIn_wide (n := 0)).1 (callsIn_of_wp_marks Tryz.func36 rfl trivial ?_ rfl)
  refine wpIn_wide.2 ?_
  simp only [Tryz.ntmps36, List.size_toArray, List.length_cons, List.length_nil, Nat.reduceAdd, Nat.reduceSub, Array.replicate_succ, Array.replicate_zero, List.push_toArray, List.append_toArray, List.nil_append, List.cons_append]
  go_upto_region 2 with fail
  generalize ((w.alloc (.cells #[.slice none 0 0] 36)).alloc (.cells #[.int .i64 0] 38)).alloc (.cells #[.slice none 0 0] 126) = WX at *
  obtain ⟨q, hq⟩ : ∃ q, w.heap.size = q := ⟨_, rfl⟩
  have hwq : w.heap.size ≤ q := Nat.le_of_eq hq
  rw [hq] at b0 b1 b8 hsz
  (try rw [hq])
  obtain ⟨B, hBe⟩ : ∃ B, WX.heap.size = B := ⟨_, rfl⟩
  have hBq1 : B ≤ q + 3 := by omega
  have hBq2 : q + 3 ≤ B := by omega
  have hBX : B ≤ WX.heap.size := by omega
  have hO0 : OwnR 127 1 B WX (.slice none 0 0) (([] : List Nat).map ptC) := OwnR.nil _ _ _ _
  have hT0 : Tas B WX [] ((its.take 0).map (taP C)) := Tas.nil B WX
  have HWs : Hid (WX.heap.size = B) := hid hBe
  have HQe : Hid (w.heap.size = q) := hid hq
  clear hBe hq hsz
  go_wp2
  go_loopw [19] (fun v19 wr => ∃ (k : Nat) (va : Option Addr) (vm vd : Nat) (bs : List Nat), k ≤ its.length ∧ v19 = .int .i64 k ∧ Bk wr q (.cells #[.slice none 0 0] 36) ∧ Bk wr (q + 1) (.cells #[.int .i64 0] 38) ∧ Bk wr (q + 1 + 1) (.cells #[.slice va vm vd] 126) ∧ Below w.heap.size w wr ∧ B ≤ wr.heap.size ∧ OwnR 127 1 B wr (.slice va vm vd) (bs.map ptC) ∧ Tas B wr bs ((its.take k).map (taP C))) (fun i _ => its.length - (intOf i).toNat)
  case atStart => exact ⟨0, none, 0, 0, [], Nat.zero_le _, rfl, b0, b1, b8, hw, hBX, hO0, hT0⟩
  case round =>
    obtain ⟨k, va, vm, vd, bs, hk, rfl, b0', b1', b8', hB, hBr, hO, hTs⟩ := hrel
    clear b0 b1 b8 hw hBX hO0 hT0
    by_cases hlt : k < its.length
    · obtain ⟨b, o, rfl, e0, e1, e2⟩ := item1 (HIt.out wr hB) hlt
      obtain ⟨x, hx⟩ : ∃ x, its[k] = x := ⟨_, rfl⟩
      rw [hx] at e0 e1 e2
      obtain ⟨x0, x1, x2⟩ := x
      have HX : Hid (its[k] = (x0, x1, x2)) := hid hx
      have HTl : Hid _ := hid (HTl0.out (x0, x1, x2))
      have hkm : (k : Int) < (tn : Int) := by omega
      have hwk := wrapS (k := k) (n := tn) (c := tc) (by omega) l2 l3
      have hbs5 : bs.length ≤ 500 := by have := hTs.len; rw [List.length_map, List.length_take] at this; omega
      have hw4 := bal (Below.refl wr.heap.size wr) (.cells #[.int .i64 x0, .string x1, .string x2] 50)
      have bi := Bk.new wr (.cells #[.int .i64 x0, .string x1, .string x2] 50)
      have hO4 := hO.alloc (.cells #[.int .i64 x0, .string x1, .string x2] 50)
      have hB4 := Below.on hB hw4
      have hBW : B ≤ (wr.alloc (.cells #[.int .i64 x0, .string x1, .string x2] 50)).heap.size := Nat.le_trans hBr hw4.size
      obtain ⟨ix, hix⟩ : ∃ ix, wr.heap.size = ix := ⟨_, rfl⟩
      have HIx : Hid (wr.heap.size = ix) := hid hix
      rw [hix] at bi
      have hixq : q + 3 ≤ ix := by omega
      have b0 := b0'
      have b1 := b1'
      have b8 := b8'.later hw4
      dsimp only at e0 e1 e2
      clear hx HTl0 HIt HFt hss b0' b1' b8' hO
      go_upto_region 5 with fail
      (try rw [hix])
      generalize hW4 : wr.alloc (.cells #[.int .i64 x0, .string x1, .string x2] 50) = W4 at *
      clear hix hW4 e0 e1 e2
      have hY : Below W4.heap.size W4 W4.drew := (Below.refl _ W4).drew
      refine wp_normal ?_
      refine wp_region_held_drew (S := fun w' => w'.cell? ⟨ix, 0, none⟩ = some (.int .i64 x0) ∧ w'.cell? ⟨ix, 1, none⟩ = some (.string x1) ∧ w'.cell? ⟨ix, 2, none⟩ = some (.string x2)) (by kernel_rfl) ((bi.later hY).it) (fun hHeld => ?_)
      generalize W4.drew = y at *
      refine wpAnyH_take (i := 1) (v := ?tv7001) rfl (by kernel_rfl) (by kernel_rfl) (by kernel_rfl) (fun _ _ _ h => by cases h.1) (Or.inl ⟨by rfl, ?hy7001⟩) (by assumption) ?rs7001
      case hy7001 => (intro w9 hSw; (try dsimp only at hSw); go_simp; (try with_reducible rfl))
      (try simp only [Act.put, List.getElem_toArray, List.getElem_cons_zero, List.getElem_cons_succ, List.setIfInBounds_toArray, List.set_cons_zero, List.set_cons_succ])
      refine wpAnyH_take (i := 2) (v := ?tv7002) rfl (by kernel_rfl) (by kernel_rfl) (by kernel_rfl) (fun _ _ _ h => by cases h.1) (Or.inl ⟨by rfl, ?hy7002⟩) (by assumption) ?rs7002
      case hy7002 => (intro w9 hSw; (try dsimp only at hSw); go_simp; (try with_reducible rfl))
      (try simp only [Act.put, List.getElem_toArray, List.getElem_cons_zero, List.getElem_cons_succ, List.setIfInBounds_toArray, List.set_cons_zero, List.set_cons_succ])
      refine wpAnyH_ready (rs := [0, 3]) (by kernel_rfl) (by simp) ?_
      refine AllReadyH.cons rfl (fun K hK => ?_) (AllReadyH.cons rfl (fun K hK => ?_) AllReadyH.nil)
      · have y8 := (b8.later hY).one
        go_simp
        refine hK.out _ _ ((bi.later hY).it) (fun hHeld => ?_)
        clear hK K
        (try simp only [Act.put, List.getElem_toArray, List.getElem_cons_zero, List.getElem_cons_succ, List.setIfInBounds_toArray, List.set_cons_zero, List.set_cons_succ])
        refine wpAnyH_ready (rs := [3]) (by kernel_rfl) (by simp) ?_
        refine AllReadyH.cons rfl (fun K hK => ?_) AllReadyH.nil
        go_simp
        go_wp2_with (first | (go_at_call 65; (refine Calls.mono (HTl.out _ (Below.on hB4 hY)) ?_); rintro e y ⟨bt, rfl, hbt, hTa, hby⟩; have hbt2 := Nat.le_trans hY.size hbt; replace hY := Below.on hY hby))
        refine hK.out _ _ ((bi.later hY).it) (fun hHeld => ?_)
        clear hK K
        (try simp only [Act.put, List.getElem_toArray, List.getElem_cons_zero, List.getElem_cons_succ, List.setIfInBounds_toArray, List.set_cons_zero, List.set_cons_succ])
        refine wpAnyH_ready (rs := [4]) (by kernel_rfl) (by simp) ?_
        refine AllReadyH.cons rfl (fun K hK => ?_) AllReadyH.nil
        go_simp
        refine hK.out _ _ ((bi.later (bal hY (.cells #[.pointer (some ⟨bt, 0, none⟩)] 127))).it) (fun hHeld => ?_)
        clear hK K
        (try simp only [Act.put, List.getElem_toArray, List.getElem_cons_zero, List.getElem_cons_succ, List.setIfInBounds_toArray, List.set_cons_zero, List.set_cons_succ])
        refine wpAnyH_ready (rs := [5]) (by kernel_rfl) (by simp) ?_
        refine AllReadyH.cons rfl (fun K hK => ?_) AllReadyH.nil
        have hYA := bal hY (.cells #[.pointer (some ⟨bt, 0, none⟩)] 127)
        have ho5 := hO4.later hYA
        refine step_appR (B := B) (by rfl) (.tmp 23) (.tmp 27) (by rfl) Tryz.underlying126 Tryz.infoTPt rfl (by decide) (by decide) _ (bs.map ptC) y.heap.size [.pointer (some ⟨bt, 0, none⟩)] (by rfl) (by rfl) ho5 rfl (by simp [Value.oneCell']) (newV1 y _ _) (by rw [List.length_map]; omega) (Nat.le_trans hBW hYA.size) ?_
        intro v' w6 hO6 hg6 hown
        obtain ⟨a6, m6, d6, rfl⟩ := hO6.sl
        have bi6 := (bi.later hYA).grown hg6 (ho5.ne_bk (bi.later hYA) (by decide))
        have b86 := (b8.later hYA).grown hg6 (ho5.ne_bk (b8.later hYA) (by decide))
        refine hK.out _ _ (bi6.it) (fun hHeld => ?_)
        clear hK K
        (try simp only [Act.put, List.getElem_toArray, List.getElem_cons_zero, List.getElem_cons_succ, List.setIfInBounds_toArray, List.set_cons_zero, List.set_cons_succ])
        refine wpAnyH_ready (rs := [6]) (by kernel_rfl) (by simp) ?_
        refine AllReadyH.cons rfl (fun K hK => ?_) AllReadyH.nil
        have c86 := b86.one
        have f86 := b86.free 0
        have l86 := b86.lt
        go_simp
        refine hK.out _ _ ((bi6.oth (a := ⟨q + 1 + 1, 0, none⟩) (.slice a6 m6 d6) (by show ix ≠ q + 1 + 1; omega)).it) (fun hHeld => ?_)
        clear hK K
        (try simp only [Act.put, List.getElem_toArray, List.getElem_cons_zero, List.getElem_cons_succ, List.setIfInBounds_toArray, List.set_cons_zero, List.set_cons_succ])
        refine wpAnyH_done (by kernel_rfl) ?_ _
        refine ⟨rfl, ?_⟩
        clear hHeld
        have hA : Below wr.heap.size wr (y.alloc (.cells #[.pointer (some ⟨bt, 0, none⟩)] 127)) := Below.on hw4 hYA
        have hTaA := (hTa.later (bal (Below.refl _ y) (.cells #[.pointer (some ⟨bt, 0, none⟩)] 127)))
        have hne2 : some bt ≠ (Value.slice va vm vd).ownBlock := ho5.ne_bk hTaA (by decide)
        have htr := (hTs.later hA)
        have ht6 := htr.grown hg6 fun i h1 => ho5.ne_bk (htr.at' i h1 (by rw [← htr.len]; exact h1)).2 (by decide)
        have hb6 := hTaA.grown hg6 hne2
        have hBt : B ≤ bt := Nat.le_trans hBW hbt2
        have ht7 := (ht6.snoc hBt hb6 (fun i h1 e => by have := (hTs.at' i h1 (by rw [← hTs.len]; exact h1)).2.lt; have := hw4.size; omega)).oth (a := ⟨q + 1 + 1, 0, none⟩) (.slice a6 m6 d6) (by show q + 1 + 1 < B; omega)
        have hO7 : OwnR 127 1 B (w6.setCell ⟨q + 1 + 1, 0, none⟩ (.slice a6 m6 d6)) (.slice a6 m6 d6) ((bs ++ [bt]).map ptC) := by
          rw [List.map_append]
          exact hO6.set (b := q + 1 + 1) (by omega) 0 (.slice a6 m6 d6)
        have hblk := ho5.blk
        have hB7 : Below w.heap.size w (w6.setCell ⟨q + 1 + 1, 0, none⟩ (.slice a6 m6 d6)) := (below_grows (Below.on hB hA) (Below.on hB hA).size hg6 fun k e => by have := (hblk k e).1; omega).setCell (p := ⟨q + 1 + 1, 0, none⟩) (by show w.heap.size ≤ q + 1 + 1; omega) _
        have b87 := b86.set (.slice a6 m6 d6)
        have b07 := (((b0.later hA).grown hg6 (ho5.ne_bk (b0.later hA) (by decide)))).oth (a := ⟨q + 1 + 1, 0, none⟩) (.slice a6 m6 d6) (by show q ≠ q + 1 + 1; omega)
        have b17 := (((b1.later hA).grown hg6 (ho5.ne_bk (b1.later hA) (by decide)))).oth (a := ⟨q + 1 + 1, 0, none⟩) (.slice a6 m6 d6) (by show q + 1 ≠ q + 1 + 1; omega)
        have hs7 : B ≤ (w6.setCell ⟨q + 1 + 1, 0, none⟩ (.slice a6 m6 d6)).heap.size := by have h1 := hg6.size; have h2 := hYA.size; simp only [World.setCell, Array.size_modify]; omega
        have HN : Hid ((its.take (k + 1)).map (taP C) = (its.take k).map (taP C) ++ [taP C (x0, x1, x2)]) := hid (by rw [List.take_succ_eq_append_getElem hlt, List.map_append, HX.out]; rfl)
        have HQ : Hid _ := hid (And.intro b07 (And.intro b17 (And.intro b87 (And.intro hB7 (And.intro hO7 (And.intro (HN.out ▸ ht7) hs7))))))
        clear hA hTaA hne2 htr ht6 hb6 hBt ht7 hO7 hblk hB7 b87 b07 b17 hs7 HN ho5 hO6 hg6 hown bi6 b86 c86 f86 l86 hTa hbt hbt2 hby hY hYA hO4 bi b8 b0 b1 hTs hw4 hB4 hB HTl HX
        generalize w6.setCell ⟨q + 1 + 1, 0, none⟩ (.slice a6 m6 d6) = Z at *
        go_wp2
        go_roundw
        case rel =>
          obtain ⟨p1, p2, p3, p4, p5, p6, p7⟩ := HQ.out
          exact ⟨k + 1, a6, m6, d6, bs ++ [bt], hlt, by go_num, p1, p2, p3, p4, p7, p5, p6⟩
        case measure => simp only [intOf]; omega
      · go_simp
        go_wp2_with (first | (go_at_call 65; (refine Calls.mono (HTl.out _ (Below.on hB4 hY)) ?_); rintro e y ⟨bt, rfl, hbt, hTa, hby⟩; have hbt2 := Nat.le_trans hY.size hbt; replace hY := Below.on hY hby))
        refine hK.out _ _ ((bi.later hY).it) (fun hHeld => ?_)
        clear hK K
        (try simp only [Act.put, List.getElem_toArray, List.getElem_cons_zero, List.getElem_cons_succ, List.setIfInBounds_toArray, List.set_cons_zero, List.set_cons_succ])
        refine wpAnyH_ready (rs := [0, 4]) (by kernel_rfl) (by simp) ?_
        refine AllReadyH.cons rfl (fun K hK => ?_) (AllReadyH.cons rfl (fun K hK => ?_) AllReadyH.nil)
        · have y8 := (b8.later hY).one
          go_simp
          refine hK.out _ _ ((bi.later hY).it) (fun hHeld => ?_)
          clear hK K
          (try simp only [Act.put, List.getElem_toArray, List.getElem_cons_zero, List.getElem_cons_succ, List.setIfInBounds_toArray, List.set_cons_zero, List.set_cons_succ])
          refine wpAnyH_ready (rs := [4]) (by kernel_rfl) (by simp) ?_
          refine AllReadyH.cons rfl (fun K hK => ?_) AllReadyH.nil
          go_simp
          refine hK.out _ _ ((bi.later (bal hY (.cells #[.pointer (some ⟨bt, 0, none⟩)] 127))).it) (fun hHeld => ?_)
          clear hK K
          (try simp only [Act.put, List.getElem_toArray, List.getElem_cons_zero, List.getElem_cons_succ, List.setIfInBounds_toArray, List.set_cons_zero, List.set_cons_succ])
          refine wpAnyH_ready (rs := [5]) (by kernel_rfl) (by simp) ?_
          refine AllReadyH.cons rfl (fun K hK => ?_) AllReadyH.nil
          have hYA := bal hY (.cells #[.pointer (some ⟨bt, 0, none⟩)] 127)
          have ho5 := hO4.later hYA
          refine step_appR (B := B) (by rfl) (.tmp 23) (.tmp 27) (by rfl) Tryz.underlying126 Tryz.infoTPt rfl (by decide) (by decide) _ (bs.map ptC) y.heap.size [.pointer (some ⟨bt, 0, none⟩)] (by rfl) (by rfl) ho5 rfl (by simp [Value.oneCell']) (newV1 y _ _) (by rw [List.length_map]; omega) (Nat.le_trans hBW hYA.size) ?_
          intro v' w6 hO6 hg6 hown
          obtain ⟨a6, m6, d6, rfl⟩ := hO6.sl
          have bi6 := (bi.later hYA).grown hg6 (ho5.ne_bk (bi.later hYA) (by decide))
          have b86 := (b8.later hYA).grown hg6 (ho5.ne_bk (b8.later hYA) (by decide))
          refine hK.out _ _ (bi6.it) (fun hHeld => ?_)
          clear hK K
          (try simp only [Act.put, List.getElem_toArray, List.getElem_cons_zero, List.getElem_cons_succ, List.setIfInBounds_toArray, List.set_cons_zero, List.set_cons_succ])
          refine wpAnyH_ready (rs := [6]) (by kernel_rfl) (by simp) ?_
          refine AllReadyH.cons rfl (fun K hK => ?_) AllReadyH.nil
          have c86 := b86.one
          have f86 := b86.free 0
          have l86 := b86.lt
          go_simp
          refine hK.out _ _ ((bi6.oth (a := ⟨q + 1 + 1, 0, none⟩) (.slice a6 m6 d6) (by show ix ≠ q + 1 + 1; omega)).it) (fun hHeld => ?_)
          clear hK K
          (try simp only [Act.put, List.getElem_toArray, List.getElem_cons_zero, List.getElem_cons_succ, List.setIfInBounds_toArray, List.set_cons_zero, List.set_cons_succ])
          refine wpAnyH_done (by kernel_rfl) ?_ _
          refine ⟨rfl, ?_⟩
          clear hHeld
          have hA : Below wr.heap.size wr (y.alloc (.cells #[.pointer (some ⟨bt, 0, none⟩)] 127)) := Below.on hw4 hYA
          have hTaA := (hTa.later (bal (Below.refl _ y) (.cells #[.pointer (some ⟨bt, 0, none⟩)] 127)))
          have hne2 : some bt ≠ (Value.slice va vm vd).ownBlock := ho5.ne_bk hTaA (by decide)
          have htr := (hTs.later hA)
          have ht6 := htr.grown hg6 fun i h1 => ho5.ne_bk (htr.at' i h1 (by rw [← htr.len]; exact h1)).2 (by decide)
          have hb6 := hTaA.grown hg6 hne2
          have hBt : B ≤ bt := Nat.le_trans hBW hbt2
          have ht7 := (ht6.snoc hBt hb6 (fun i h1 e => by have := (hTs.at' i h1 (by rw [← hTs.len]; exact h1)).2.lt; have := hw4.size; omega)).oth (a := ⟨q + 1 + 1, 0, none⟩) (.slice a6 m6 d6) (by show q + 1 + 1 < B; omega)
          have hO7 : OwnR 127 1 B (w6.setCell ⟨q + 1 + 1, 0, none⟩ (.slice a6 m6 d6)) (.slice a6 m6 d6) ((bs ++ [bt]).map ptC) := by
            rw [List.map_append]
            exact hO6.set (b := q + 1 + 1) (by omega) 0 (.slice a6 m6 d6)
          have hblk := ho5.blk
          have hB7 : Below w.heap.size w (w6.setCell ⟨q + 1 + 1, 0, none⟩ (.slice a6 m6 d6)) := (below_grows (Below.on hB hA) (Below.on hB hA).size hg6 fun k e => by have := (hblk k e).1; omega).setCell (p := ⟨q + 1 + 1, 0, none⟩) (by show w.heap.size ≤ q + 1 + 1; omega) _
          have b87 := b86.set (.slice a6 m6 d6)
          have b07 := (((b0.later hA).grown hg6 (ho5.ne_bk (b0.later hA) (by decide)))).oth (a := ⟨q + 1 + 1, 0, none⟩) (.slice a6 m6 d6) (by show q ≠ q + 1 + 1; omega)
          have b17 := (((b1.later hA).grown hg6 (ho5.ne_bk (b1.later hA) (by decide)))).oth (a := ⟨q + 1 + 1, 0, none⟩) (.slice a6 m6 d6) (by show q + 1 ≠ q + 1 + 1; omega)
          have hs7 : B ≤ (w6.setCell ⟨q + 1 + 1, 0, none⟩ (.slice a6 m6 d6)).heap.size := by have h1 := hg6.size; have h2 := hYA.size; simp only [World.setCell, Array.size_modify]; omega
          have HN : Hid ((its.take (k + 1)).map (taP C) = (its.take k).map (taP C) ++ [taP C (x0, x1, x2)]) := hid (by rw [List.take_succ_eq_append_getElem hlt, List.map_append, HX.out]; rfl)
          have HQ : Hid _ := hid (And.intro b07 (And.intro b17 (And.intro b87 (And.intro hB7 (And.intro hO7 (And.intro (HN.out ▸ ht7) hs7))))))
          clear hA hTaA hne2 htr ht6 hb6 hBt ht7 hO7 hblk hB7 b87 b07 b17 hs7 HN ho5 hO6 hg6 hown bi6 b86 c86 f86 l86 hTa hbt hbt2 hby hY hYA hO4 bi b8 b0 b1 hTs hw4 hB4 hB HTl HX
          generalize w6.setCell ⟨q + 1 + 1, 0, none⟩ (.slice a6 m6 d6) = Z at *
          go_wp2
          go_roundw
          case rel =>
            obtain ⟨p1, p2, p3, p4, p5, p6, p7⟩ := HQ.out
            exact ⟨k + 1, a6, m6, d6, bs ++ [bt], hlt, by go_num, p1, p2, p3, p4, p7, p5, p6⟩
          case measure => simp only [intOf]; omega
        · go_simp
          refine hK.out _ _ ((bi.later (bal hY (.cells #[.pointer (some ⟨bt, 0, none⟩)] 127))).it) (fun hHeld => ?_)
          clear hK K
          (try simp only [Act.put, List.getElem_toArray, List.getElem_cons_zero, List.getElem_cons_succ, List.setIfInBounds_toArray, List.set_cons_zero, List.set_cons_succ])
          refine wpAnyH_ready (rs := [0]) (by kernel_rfl) (by simp) ?_
          refine AllReadyH.cons rfl (fun K hK => ?_) AllReadyH.nil
          have y8 := (b8.later (bal hY (.cells #[.pointer (some ⟨bt, 0, none⟩)] 127))).one
          go_simp
          refine hK.out _ _ ((bi.later (bal hY (.cells #[.pointer (some ⟨bt, 0, none⟩)] 127))).it) (fun hHeld => ?_)
          clear hK K
          (try simp only [Act.put, List.getElem_toArray, List.getElem_cons_zero, List.getElem_cons_succ, List.setIfInBounds_toArray, List.set_cons_zero, List.set_cons_succ])
          refine wpAnyH_ready (rs := [5]) (by kernel_rfl) (by simp) ?_
          refine AllReadyH.cons rfl (fun K hK => ?_) AllReadyH.nil
          have hYA := bal hY (.cells #[.pointer (some ⟨bt, 0, none⟩)] 127)
          have ho5 := hO4.later hYA
          refine step_appR (B := B) (by rfl) (.tmp 23) (.tmp 27) (by rfl) Tryz.underlying126 Tryz.infoTPt rfl (by decide) (by decide) _ (bs.map ptC) y.heap.size [.pointer (some ⟨bt, 0, none⟩)] (by rfl) (by rfl) ho5 rfl (by simp [Value.oneCell']) (newV1 y _ _) (by rw [List.length_map]; omega) (Nat.le_trans hBW hYA.size) ?_
          intro v' w6 hO6 hg6 hown
          obtain ⟨a6, m6, d6, rfl⟩ := hO6.sl
          have bi6 := (bi.later hYA).grown hg6 (ho5.ne_bk (bi.later hYA) (by decide))
          have b86 := (b8.later hYA).grown hg6 (ho5.ne_bk (b8.later hYA) (by decide))
          refine hK.out _ _ (bi6.it) (fun hHeld => ?_)
          clear hK K
          (try simp only [Act.put, List.getElem_toArray, List.getElem_cons_zero, List.getElem_cons_succ, List.setIfInBounds_toArray, List.set_cons_zero, List.set_cons_succ])
          refine wpAnyH_ready (rs := [6]) (by kernel_rfl) (by simp) ?_
          refine AllReadyH.cons rfl (fun K hK => ?_) AllReadyH.nil
          have c86 := b86.one
          have f86 := b86.free 0
          have l86 := b86.lt
          go_simp
          refine hK.out _ _ ((bi6.oth (a := ⟨q + 1 + 1, 0, none⟩) (.slice a6 m6 d6) (by show ix ≠ q + 1 + 1; omega)).it) (fun hHeld => ?_)
          clear hK K
          (try simp only [Act.put, List.getElem_toArray, List.getElem_cons_zero, List.getElem_cons_succ, List.setIfInBounds_toArray, List.set_cons_zero, List.set_cons_succ])
          refine wpAnyH_done (by kernel_rfl) ?_ _
          refine ⟨rfl, ?_⟩
          clear hHeld
          have hA : Below wr.heap.size wr (y.alloc (.cells #[.pointer (some ⟨bt, 0, none⟩)] 127)) := Below.on hw4 hYA
          have hTaA := (hTa.later (bal (Below.refl _ y) (.cells #[.pointer (some ⟨bt, 0, none⟩)] 127)))
          have hne2 : some bt ≠ (Value.slice va vm vd).ownBlock := ho5.ne_bk hTaA (by decide)
          have htr := (hTs.later hA)
          have ht6 := htr.grown hg6 fun i h1 => ho5.ne_bk (htr.at' i h1 (by rw [← htr.len]; exact h1)).2 (by decide)
          have hb6 := hTaA.grown hg6 hne2
          have hBt : B ≤ bt := Nat.le_trans hBW hbt2
          have ht7 := (ht6.snoc hBt hb6 (fun i h1 e => by have := (hTs.at' i h1 (by rw [← hTs.len]; exact h1)).2.lt; have := hw4.size; omega)).oth (a := ⟨q + 1 + 1, 0, none⟩) (.slice a6 m6 d6) (by show q + 1 + 1 < B; omega)
          have hO7 : OwnR 127 1 B (w6.setCell ⟨q + 1 + 1, 0, none⟩ (.slice a6 m6 d6)) (.slice a6 m6 d6) ((bs ++ [bt]).map ptC) := by
            rw [List.map_append]
            exact hO6.set (b := q + 1 + 1) (by omega) 0 (.slice a6 m6 d6)
          have hblk := ho5.blk
          have hB7 : Below w.heap.size w (w6.setCell ⟨q + 1 + 1, 0, none⟩ (.slice a6 m6 d6)) := (below_grows (Below.on hB hA) (Below.on hB hA).size hg6 fun k e => by have := (hblk k e).1; omega).setCell (p := ⟨q + 1 + 1, 0, none⟩) (by show w.heap.size ≤ q + 1 + 1; omega) _
          have b87 := b86.set (.slice a6 m6 d6)
          have b07 := (((b0.later hA).grown hg6 (ho5.ne_bk (b0.later hA) (by decide)))).oth (a := ⟨q + 1 + 1, 0, none⟩) (.slice a6 m6 d6) (by show q ≠ q + 1 + 1; omega)
          have b17 := (((b1.later hA).grown hg6 (ho5.ne_bk (b1.later hA) (by decide)))).oth (a := ⟨q + 1 + 1, 0, none⟩) (.slice a6 m6 d6) (by show q + 1 ≠ q + 1 + 1; omega)
          have hs7 : B ≤ (w6.setCell ⟨q + 1 + 1, 0, none⟩ (.slice a6 m6 d6)).heap.size := by have h1 := hg6.size; have h2 := hYA.size; simp only [World.setCell, Array.size_modify]; omega
          have HN : Hid ((its.take (k + 1)).map (taP C) = (its.take k).map (taP C) ++ [taP C (x0, x1, x2)]) := hid (by rw [List.take_succ_eq_append_getElem hlt, List.map_append, HX.out]; rfl)
          have HQ : Hid _ := hid (And.intro b07 (And.intro b17 (And.intro b87 (And.intro hB7 (And.intro hO7 (And.intro (HN.out ▸ ht7) hs7))))))
          clear hA hTaA hne2 htr ht6 hb6 hBt ht7 hO7 hblk hB7 b87 b07 b17 hs7 HN ho5 hO6 hg6 hown bi6 b86 c86 f86 l86 hTa hbt hbt2 hby hY hYA hO4 bi b8 b0 b1 hTs hw4 hB4 hB HTl HX
          generalize w6.setCell ⟨q + 1 + 1, 0, none⟩ (.slice a6 m6 d6) = Z at *
          go_wp2
          go_roundw
          case rel =>
            obtain ⟨p1, p2, p3, p4, p5, p6, p7⟩ := HQ.out
            exact ⟨k + 1, a6, m6, d6, bs ++ [bt], hlt, by go_num, p1, p2, p3, p4, p7, p5, p6⟩
          case measure => simp only [intOf]; omega
    · obtain rfl : k = its.length := by omega
      rw [List.take_length] at hTs
      have hT0 : Tas B wr bs (stT C its []) := by unfold stT; simpa using hTs
      have hkm : ¬ ((its.length : Nat) : Int) < (tn : Int) := by omega
      have hkd : decide (((its.length : Nat) : Int) < (tn : Int)) = false := by simpa using hkm
      have hbl1 : bs.length ≤ its.length := by have := hTs.len; rw [List.length_map] at this; omega
      clear HTl0 HIt hTs
      go_wp2_with fail
      generalize wr = Wx at *
      refine (wpIn_wide (n := 0)).1 ?_
      refine range_at (fun t xs => (((t.setIfInBounds 31 xs[0]!).setIfInBounds 32 xs[1]!).setIfInBounds 11 xs[0]!).setIfInBounds 12 xs[1]!) (gf := gf) (lb := lb) (N := fndN G) (A := A2 w.heap.size G) (w0 := w) rfl eg hss.out hB (fun h h1 h2 => A2.on h h1 h2)
        (fun k V => k ≤ G.1.length ∧ Bk V q (.cells #[.slice none 0 0] 36) ∧ Bk V (q + 1) (.cells #[.int .i64 0] 38) ∧ Bk V (q + 1 + 1) (.cells #[.slice va vm vd] 126) ∧ OwnR 127 1 B V (.slice va vm vd) (bs.map ptC) ∧ Tas B V bs (stT C its (G.1.take k)) ∧ Wx.heap.size ≤ V.heap.size ∧ Below w.heap.size w V)
        (fun c k V => c = .ret ∧ G.2 ≠ 0 ∧ Bk V q (.cells #[.slice none 0 0] 36) ∧ Bk V (q + 1) (.cells #[.int .i64 G.2] 38) ∧ Below w.heap.size w V)
        ⟨Nat.zero_le _, b0', b1', b8', hO, hT0, Nat.le_refl _, hB⟩ ?has ?bo ?done ?stop
      case has =>
        rintro l2 xs W2 K ⟨k, s, V, ⟨a, n, c, r, rfl, -, -⟩ | ⟨-, -, rfl⟩⟩ hK
        · simp only [List.setIfInBounds_toArray, List.set_cons_zero, List.set_cons_succ, List.getElem!_toArray, List.getElem!_cons_zero, List.getElem!_cons_succ] at hK
          gi_wp2
          exact hK
        · simp only [List.setIfInBounds_toArray, List.set_cons_zero, List.set_cons_succ, List.getElem!_toArray, List.getElem!_cons_zero, List.getElem!_cons_succ] at hK
          gi_wp2
          exact hK
      case bo =>
        rintro l2 k V Wr xs hk ⟨hkF, hb0, hb1, hb8, hOv, hTv, hVs, hbV⟩ hG hbW hA
        clear b0' b1' b8' hO hT0
        have hqw1 : w.heap.size ≤ q := Nat.le_of_eq HQe.out
        have hqw2 : q ≤ w.heap.size := Nat.le_of_eq HQe.out.symm
        rcases hA with ⟨a, n, c, r, rfl, hr, hrow⟩ | ⟨rfl, he, rfl⟩
        · obtain ⟨hkl, hkr⟩ := List.getElem?_eq_some_iff.1 hr
          have HNx : Hid (stT C its (G.1.take (k + 1)) = (stT C its (G.1.take k)).map fun t => tkP t r) := hid (by rw [List.take_succ_eq_append_getElem hkl, hkr, stT_snoc])
          have HrF : Hid (∀ v ∈ r, Fits v.2.1 ∧ v.2.2.size ≤ 281474976710656) := hid (HFt.out r (hkr ▸ List.getElem_mem hkl))
          have hTK := stT_ok (C := C) (its := its) (R := G.1.take k) fun x hx => HFt.out x (List.mem_of_mem_take hx)
          have hk5 : (G.1.take k).length ≤ 500 := by rw [List.length_take]; omega
          generalize stT C its (G.1.take k) = TS at *
          have htl1 : TS.length ≤ bs.length := Nat.le_of_eq hTv.len.symm
          have htl2 : bs.length ≤ TS.length := Nat.le_of_eq hTv.len
          have HTl : Hid (TS.length = bs.length) := hid hTv.len.symm
          have HTK : Hid (∀ t ∈ TS, TaK 500 t) := hid fun t ht => by
            obtain ⟨p1, p2, p3, p4, p5⟩ := hTK t ht
            exact ⟨p1, p2, by omega, p4, p5⟩
          have c8 := (hb8.gr hG).one
          have s0 := hb0.gr hG
          have s1 := hb1.gr hG
          have s8 := hb8.gr hG
          have sO := hOv.gr hG
          have sT : Tas B Wr bs (upT TS r 0) := by rw [upT_zero]; exact hTv.gr hG
          have hVr : V.heap.size ≤ Wr.heap.size := hG.size
          have Hbt : Hid (∀ i (h : i < bs.length), bs[i] < V.heap.size) := hid fun i h => (hTv.at' i h (by omega)).2.lt
          have hvm : vm = bs.length := by have := hOv.lenV; rwa [List.length_map] at this
          have hwr : w.heap.size ≤ Wr.heap.size := hbW.size
          have sK := Kps.refl w.heap.size Wx.heap.size Wr
          subst hvm
          obtain ⟨m1, m2, m3⟩ := row_lens (own_pts sO)
          have HbW : Hid _ := hid hbW
          clear hr hkr hTK hk5 hb0 hb1 hb8 hOv hTv hG hbV hbW hk
          simp only [List.setIfInBounds_toArray, List.set_cons_zero, List.set_cons_succ, List.getElem!_toArray, List.getElem!_cons_zero, List.getElem!_cons_succ]
          gi_wp2
          gi_loopw [38] (fun v38 wr => ∃ (j : Nat), j ≤ bs.length ∧ v38 = .int .i64 j ∧ Bk wr q (.cells #[.slice none 0 0] 36) ∧ Bk wr (q + 1) (.cells #[.int .i64 0] 38) ∧ Bk wr (q + 1 + 1) (.cells #[.slice va bs.length vd] 126) ∧ OwnR 127 1 B wr (.slice va bs.length vd) (bs.map ptC) ∧ Tas B wr bs (upT TS r j) ∧ RowIs eVal (fun b => b < w.heap.size ∨ V.heap.size ≤ b) wr (.slice a n c) r ∧ Kps w.heap.size Wx.heap.size Wr wr) (fun i _ => bs.length - (intOf i).toNat)
          case atStart => exact ⟨0, Nat.zero_le _, rfl, s0, s1, s8, sO, sT, hrow, sK⟩
          case round =>
            obtain ⟨j, hj, rfl, p0, p1, p8, pO, pT, pR, pK⟩ := hrel
            clear s0 s1 s8 sO sT hrow sK c8
            by_cases hlt : j < bs.length
            · have hjt : j < TS.length := by omega
              have hju : j < (upT TS r j).length := by rw [upT_len]; exact hjt
              obtain ⟨bp, op, rfl, x0⟩ := ptr1 (own_pts pO) hlt
              have hbk := (pT.at' j hlt hju).2
              rw [upT_at hjt hju] at hbk
              have hBj := (pT.at' j hlt hju).1
              have hbv := Hbt.out j hlt
              obtain ⟨z1, z2, z3, z4, z5⟩ := HTK.out TS[j] (List.getElem_mem hjt)
              have hwz : w.heap.size ≤ wr.heap.size := Nat.le_trans hwr pK.low.size
              have hne : ∀ k', (k' < w.heap.size ∨ V.heap.size ≤ k') → k' ≠ bs[j] := fun k' hq e => by omega
              have HTk : Hid _ := hid (takeT_any hbk z1 z2 (by omega) pR hne (fun h => ⟨z4, fun v hv => (HrF.out v hv).1⟩))
              have HNe : Hid _ := hid hne
              have HAf : Hid (∀ W3, But bs[j] wr W3 → Bk W3 bs[j] (taO (tkP TS[j] r)) → Bk W3 q (.cells #[.slice none 0 0] 36) ∧ Bk W3 (q + 1) (.cells #[.int .i64 0] 38) ∧ Bk W3 (q + 1 + 1) (.cells #[.slice (some ⟨bp, op, none⟩) bs.length vd] 126) ∧ OwnR 127 1 B W3 (.slice (some ⟨bp, op, none⟩) bs.length vd) (bs.map ptC) ∧ Tas B W3 bs (upT TS r (j + 1)) ∧ RowIs eVal (fun b => b < w.heap.size ∨ V.heap.size ≤ b) W3 (.slice a n c) r ∧ Kps w.heap.size Wx.heap.size Wr W3) := hid fun W3 hbu hb3 =>
                ⟨p0.butN hbu (by omega), p1.butN hbu (by omega), p8.butN hbu (by omega), pO.butN hbu (pO.ne_bk hbk (by decide)), by rw [← upT_set hjt]; exact pT.but hlt hbu hb3, pR.keep (by decide) fun k' hq hl => hbu.block k' hl (HNe.out k' hq), pK.trans (Kps.but hbu (by omega) hwz fun o ho => by rw [hbk.row] at ho; cases ho; exact prt_ta _)⟩
              have hkm2 : (j : Int) < (bs.length : Int) := by omega
              have hwk2 := wrapS (k := j) (n := bs.length) (c := vd) hlt m2 m3
              obtain ⟨bj, hbj⟩ : ∃ b, bs[j] = b := ⟨_, rfl⟩
              rw [hbj] at x0 HTk HAf
              clear p0 p1 p8 pO pT pR pK hbk hne HNe z1 z2 z3 z4 z5 hbj
              gi_wp2_with fail
              refine ⟨trivial, rfl, (CallsIn.inRound l2 (callsIn_wide.2 HTk.out)).mono ?_⟩
              rintro e W3 ⟨⟨v, rfl⟩, hbu, hbk3⟩
              have HA3 : Hid _ := hid (HAf.out W3 hbu hbk3)
              clear HTk HAf hbu hbk3 x0
              gi_wp2
              go_roundw
              case rel =>
                obtain ⟨p0, p1, p8, pO, pT, pR, pK⟩ := HA3.out
                exact ⟨j + 1, hlt, by go_num, p0, p1, p8, pO, pT, pR, pK⟩
              case measure => simp only [intOf]; omega
            · obtain rfl : j = bs.length := by omega
              have hU : upT TS r bs.length = TS.map fun t => tkP t r := by rw [← HTl.out, upT_all]
              rw [hU, ← HNx.out] at pT
              have hkm2 : ¬ (bs.length : Int) < (bs.length : Int) := by omega
              have HA3 : Hid _ := hid (And.intro p0 (And.intro p1 (And.intro p8 (And.intro pO (And.intro pT pK)))))
              clear p0 p1 p8 pO pT pR pK hU
              gi_wp2
              obtain ⟨p0, p1, p8, pO, pT, pK⟩ := HA3.out
              exact ⟨pK, hkl, p0, p1, p8, pO, pT, Nat.le_trans hVs (Nat.le_trans hVr pK.low.size), HbW.out.trans pK.low⟩
        · have t0 := hb0.gr hG
          have t1 := hb1.gr hG
          have c0 := t0.one
          have c1 := t1.one
          have f0 := t0.free 0
          have f1 := t1.free 0
          have hk1 : Kps w.heap.size Wx.heap.size Wr (Wr.setCell ⟨q, 0, none⟩ (.slice none 0 0)) := Kps.setCell ⟨q, 0, none⟩ _ (by show w.heap.size ≤ q; omega) fun o ho => by
            have := t0.row.symm.trans ho
            cases this
            rfl
          have t1' := t1.oth (a := ⟨q, 0, none⟩) (.slice none 0 0) (by show q + 1 ≠ q; omega)
          have hk2 : Kps w.heap.size Wx.heap.size (Wr.setCell ⟨q, 0, none⟩ (.slice none 0 0)) ((Wr.setCell ⟨q, 0, none⟩ (.slice none 0 0)).setCell ⟨q + 1, 0, none⟩ (.int .i64 G.2)) := Kps.setCell ⟨q + 1, 0, none⟩ _ (by show w.heap.size ≤ q + 1; omega) fun o ho => by
            have := t1'.row.symm.trans ho
            cases this
            rfl
          have HP : Hid _ := hid (And.intro (hk1.trans hk2) (And.intro ((t0.set (.slice none 0 0)).oth (a := ⟨q + 1, 0, none⟩) (.int .i64 G.2) (by show q ≠ q + 1; omega)) (t1'.set (.int .i64 G.2))))
          have HB : Hid _ := hid hbW
          have h0' : (G.2 != 0) = true := by simpa using he
          have h0d : decide (G.2 = 0) = false := by simpa using he
          have HeN : Hid (G.2 ≠ 0) := hid he
          clear hb0 hb1 hb8 hOv hTv hbV hG hbW t0 t1 t1' hk1 hk2 he
          simp only [List.setIfInBounds_toArray, List.set_cons_zero, List.set_cons_succ, List.getElem!_toArray, List.getElem!_cons_zero, List.getElem!_cons_succ]
          gi_wp2
          obtain ⟨p1, p2, p3⟩ := HP.out
          exact ⟨p1, rfl, HeN.out, p2, p3, HB.out.trans p1.low⟩
      case done =>
        rintro D V Wd hD ⟨hkF, hb0, hb1, hb8, hOv, hTv, hVs, hbV⟩ hG hbW hdf
        clear b0' b1' b8' hO hT0
        have hqw1 : w.heap.size ≤ q := Nat.le_of_eq HQe.out
        have hqw2 : q ≤ w.heap.size := Nat.le_of_eq HQe.out.symm
        have hF0 : G.2 = 0 := by
          by_cases h : G.2 = 0
          · exact h
          · unfold fndN at hkF
            rw [if_pos h] at hkF
            omega
        have hFn : G.1.take (fndN G) = G.1 := by unfold fndN; rw [hF0, if_neg (by simp), Nat.add_zero, List.take_length]
        rw [hFn] at hTv
        have hDq : q + 3 ≤ D := by omega
        have t0 := hb0.gr hG
        have t1 := hb1.gr hG
        have t8 := (hb8.gr hG).one
        have hOd := hOv.gr hG
        have hTd := hTv.gr hG
        have HEa : Hid _ := hid (eachT_any (bs := bs) (ts := stT C its G.1) hTd.len (by rw [stT_len]; exact hi5) (own_pts hOd) (fun i h1 h2 => (hTd.at' i h1 h2).2) (fun t ht => (stT_ok HFt.out t ht).2.2.2.2))
        obtain ⟨E, hE⟩ : ∃ E, erL ((stT C its G.1).map fun t => (toP t).2) = E := ⟨_, rfl⟩
        have HFo : Hid (foE C its G = E) := hid (by unfold foE; rw [hF0, if_neg (by simp)]; exact hE)
        rw [hE] at HEa
        have HRo : Hid ((stT C its G.1).map (fun t => cVs (toP t).1) = (foR C its G).map cVs) := hid (by unfold foR; rw [List.map_map]; rfl)
        rw [HRo.out] at HEa
        generalize foR C its G = R at *
        have hdl : q + 3 ≤ Wd.heap.size := by have := (Array.getElem?_eq_some_iff.1 hdf).1; omega
        clear hTd hOd hTv hOv hb0 hb1 hb8 hG hbV hVs hkF hF0 hFn hE HRo
        go_wp2_with fail
        refine Calls.mono HEa.out ?_
        rintro e W3 ⟨ea, en, ec, rfl, hb3, hok⟩
        have hbW3 := Below.on hbW hb3
        replace t0 := t0.later hb3
        replace t1 := t1.later hb3
        have hdf3 : W3.heap[D]? = some (.deferred (some [])) := (hb3.block D (Array.getElem?_eq_some_iff.1 hdf).1).trans hdf
        have HOk : Hid _ := hid hok
        have hsz3 := hb3.size
        clear HEa hok hb3 t8 hbW hdf
        by_cases h0 : E = 0
        · subst h0
          have hO3 := HOk.out rfl
          have hrow3 : RowIs eVal (fun b => Wd.heap.size ≤ b ∧ b < W3.heap.size) W3 (.slice ea en ec) R := OwnR.rowE (e := eVal) hO3 (by simp) (fun b h1 h2 => ⟨h1, h2⟩) fun i h1 h2 => by
            show _ = _
            simp
          have hA := bal (Below.refl W3.heap.size W3) (.cells #[.slice ea en ec] 42)
          have t0a := t0.later hA
          have t1a := t1.later hA
          have c0 := t0a.one
          have c1 := t1a.one
          have f0 := t0a.free 0
          have f1 := t1a.free 0
          have oL := OwnR.lit 42 1 w.heap.size W3 [.slice ea en ec] rfl hbW3.size
          obtain ⟨g, hg⟩ : ∃ g, W3.heap.size = g := ⟨_, rfl⟩
          have hgq : q + 3 ≤ g := by omega
          have hl1 := t0a.lt
          have hl2 := t1a.lt
          have oZ : OwnR 42 1 w.heap.size (((W3.alloc (.cells #[.slice ea en ec] 42)).setCell ⟨q, 0, none⟩ (.slice (some ⟨g, 0, none⟩) 1 1)).setCell ⟨q + 1, 0, none⟩ (.int .i64 0)) (.slice (some ⟨g, 0, none⟩) 1 1) [[.slice ea en ec]] := by
            rw [hg] at oL
            exact (oL.setP (r := q) (o := 0) (by show some g ≠ some q; simp; omega)).setP (r := q + 1) (o := 0) (by show some g ≠ some (q + 1); simp; omega)
          have rZ : RowIs eVal (fun b => w.heap.size ≤ b ∧ some b ≠ some g) (((W3.alloc (.cells #[.slice ea en ec] 42)).setCell ⟨q, 0, none⟩ (.slice (some ⟨g, 0, none⟩) 1 1)).setCell ⟨q + 1, 0, none⟩ (.int .i64 0)) (.slice ea en ec) R :=
            (hrow3.keep (by decide) fun b hq hl => by
              rw [Below.heap_setCell _ _ _ _ (by show b ≠ q + 1; omega), Below.heap_setCell _ _ _ _ (by show b ≠ q; omega)]
              exact hA.block b hl).mono (by decide) fun b hq _ => ⟨by omega, fun e => by cases e; omega⟩
          have hZ0 := (t0a.set (.slice (some ⟨g, 0, none⟩) 1 1)).oth (a := ⟨q + 1, 0, none⟩) (.int .i64 0) (by show q ≠ q + 1; omega)
          have hZ1 := (t1a.oth (a := ⟨q, 0, none⟩) (.slice (some ⟨g, 0, none⟩) 1 1) (by show q + 1 ≠ q; omega)).set (.int .i64 0)
          have hbZ := ((Below.on hbW3 hA).setCell (p := ⟨q, 0, none⟩) (by show w.heap.size ≤ q; omega) (.slice (some ⟨g, 0, none⟩) 1 1)).setCell (p := ⟨q + 1, 0, none⟩) (by show w.heap.size ≤ q + 1; omega) (.int .i64 0)
          have hdZ : (((W3.alloc (.cells #[.slice ea en ec] 42)).setCell ⟨q, 0, none⟩ (.slice (some ⟨g, 0, none⟩) 1 1)).setCell ⟨q + 1, 0, none⟩ (.int .i64 0)).heap[D]? = some (.deferred (some [])) := by
            rw [Below.heap_setCell _ _ _ _ (by show D ≠ q + 1; omega), Below.heap_setCell _ _ _ _ (by show D ≠ q; omega)]
            exact (hA.block D (Array.getElem?_eq_some_iff.1 hdf3).1).trans hdf3
          have HGg : Hid (W3.heap.size = g) := hid hg
          obtain ⟨Z, hZ⟩ : ∃ Z, ((W3.alloc (.cells #[.slice ea en ec] 42)).setCell ⟨q, 0, none⟩ (.slice (some ⟨g, 0, none⟩) 1 1)).setCell ⟨q + 1, 0, none⟩ (.int .i64 0) = Z := ⟨_, rfl⟩
          rw [hZ] at oZ rZ hZ0 hZ1 hbZ hdZ
          have hGZ : Gr 0 Z (Z.putObj D (.deferred none)) := (Gr.refl _ _).put _ (Nat.zero_le _) hdZ rfl
          have z0 := (hZ0.gr hGZ).one
          have z1 := (hZ1.gr hGZ).one
          have hbE : Below w.heap.size w (Z.putObj D (.deferred none)) := hbZ.trans (kps_put Z _ (by omega) hdZ)
          have hTe : TeRs w.heap.size (Z.putObj D (.deferred none)) (.slice (some ⟨g, 0, none⟩) 1 1) [R] := ⟨[[.slice ea en ec]], oZ.gr hGZ, rfl, fun i h1 h2 => by
            obtain rfl : i = 0 := by simpa using h1
            exact ⟨ea, en, ec, rfl, rowV_gr hGZ rZ⟩⟩
          have HZ : Hid _ := hid hZ
          have HD : Hid _ := hid (And.intro hdZ (And.intro z0 (And.intro z1 (And.intro hbE hTe))))
          clear oL oZ rZ hZ0 hZ1 hbZ hdZ hGZ z0 z1 hbE hTe hZ hA t0 t1 t0a t1a hO3 hrow3 HOk hdf3 hbW3 hg
          go_wp2
          (try rw [HGg.out])
          rw [HZ.out]
          obtain ⟨hdZ, z0, z1, hbE, hTe⟩ := HD.out
          refine ⟨by simp, .inl ⟨_, _, rfl, run_takeDeferred hdZ, ?_⟩⟩
          refine ⟨.tuple #[.slice (some ⟨g, 0, none⟩) 1 1, .int .i64 0], by simp [results, Tryz.results36, go_sem, z0, z1], ?_⟩
          rw [HFo.out]
          exact ⟨some ⟨g, 0, none⟩, 1, 1, rfl, fun _ => hTe, fun h => absurd rfl h, hbE⟩
        · have k0 : decide (E = 0) = false := by simpa using h0
          have l0 : (E != 0) = true := by simpa using h0
          have c0 := t0.one
          have c1 := t1.one
          have f0 := t0.free 0
          have f1 := t1.free 0
          have hl1 := t0.lt
          have hl2 := t1.lt
          have hZ0 := (t0.set (.slice none 0 0)).oth (a := ⟨q + 1, 0, none⟩) (.int .i64 E) (by show q ≠ q + 1; omega)
          have hZ1 := (t1.oth (a := ⟨q, 0, none⟩) (.slice none 0 0) (by show q + 1 ≠ q; omega)).set (.int .i64 E)
          have hbZ := (hbW3.setCell (p := ⟨q, 0, none⟩) (by show w.heap.size ≤ q; omega) (.slice none 0 0)).setCell (p := ⟨q + 1, 0, none⟩) (by show w.heap.size ≤ q + 1; omega) (.int .i64 E)
          have hdZ : ((W3.setCell ⟨q, 0, none⟩ (.slice none 0 0)).setCell ⟨q + 1, 0, none⟩ (.int .i64 E)).heap[D]? = some (.deferred (some [])) := by
            rw [Below.heap_setCell _ _ _ _ (by show D ≠ q + 1; omega), Below.heap_setCell _ _ _ _ (by show D ≠ q; omega)]
            exact hdf3
          obtain ⟨Z, hZ⟩ : ∃ Z, (W3.setCell ⟨q, 0, none⟩ (.slice none 0 0)).setCell ⟨q + 1, 0, none⟩ (.int .i64 E) = Z := ⟨_, rfl⟩
          rw [hZ] at hZ0 hZ1 hbZ hdZ
          have hGZ : Gr 0 Z (Z.putObj D (.deferred none)) := (Gr.refl _ _).put _ (Nat.zero_le _) hdZ rfl
          have z0 := (hZ0.gr hGZ).one
          have z1 := (hZ1.gr hGZ).one
          have hbE : Below w.heap.size w (Z.putObj D (.deferred none)) := hbZ.trans (kps_put Z _ (by omega) hdZ)
          have HZ : Hid _ := hid hZ
          have HD : Hid _ := hid (And.intro hdZ (And.intro z0 (And.intro z1 hbE)))
          have HeN : Hid (E ≠ 0) := hid h0
          clear hZ0 hZ1 hbZ hdZ hGZ z0 z1 hbE hZ t0 t1 HOk hdf3 hbW3 h0
          go_wp2
          rw [HZ.out]
          obtain ⟨hdZ, z0, z1, hbE⟩ := HD.out
          refine ⟨by simp, .inl ⟨_, _, rfl, run_takeDeferred hdZ, ?_⟩⟩
          refine ⟨.tuple #[.slice none 0 0, .int .i64 E], by simp [results, Tryz.results36, go_sem, z0, z1], ?_⟩
          rw [HFo.out]
          exact TeSel.fail HeN.out hbE
      case stop =>
        rintro D c k V Wd hD hk ⟨rfl, he, hb0, hb1, hbV⟩ hG hbW hdf
        have hqw1 : w.heap.size ≤ q := Nat.le_of_eq HQe.out
        have hDq : q + 3 ≤ D := by omega
        have hGZ : Gr 0 Wd (Wd.putObj D (.deferred none)) := (Gr.refl _ _).put _ (Nat.zero_le _) hdf rfl
        have z0 := ((hb0.gr hG).gr hGZ).one
        have z1 := ((hb1.gr hG).gr hGZ).one
        have hbE : Below w.heap.size w (Wd.putObj D (.deferred none)) := hbW.trans (kps_put Wd _ (by omega) hdf)
        have HE : Hid (foE C its G = G.2) := hid (by unfold foE; rw [if_pos he])
        have HeN : Hid (G.2 ≠ 0) := hid he
        clear hb0 hb1 hG hGZ he
        gi_wp2
        refine ⟨by simp, .inl ⟨_, _, rfl, run_takeDeferred hdf, ?_⟩⟩
        refine ⟨.tuple #[.slice none 0 0, .int .i64 G.2], by simp [results, Tryz.results36, go_sem, z0, z1], ?_⟩
        rw [HE.out]
        exact TeSel.fail HeN.out hbE

end Go.Proofs.YtnlaaejdianfjaaGreat
