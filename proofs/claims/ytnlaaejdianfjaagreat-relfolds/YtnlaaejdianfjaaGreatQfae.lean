import Derived.Test.YtnlaaejdianfjaaGreatQfad
namespace Go.Proofs.YtnlaaejdianfjaaGreat
open Go.RowKit
set_option linter.unusedVariables false
set_option linter.unusedSimpArgs false

/-- How many values a way has. -/
def MadeOK (op : Int) (l : List Vt) : Prop := ((op = 3 ∨ op = 4) ∧ l.length = 1) ∨ ((5 ≤ op ∧ op ≤ 13) ∧ l.length = 2)
theorem numOp_is {op : Int} : isNumOp op = true ↔ op = 3 ∨ op = 5 ∨ op = 6 ∨ op = 7 := by simp [isNumOp]
set_option maxRecDepth 100000 in
set_option maxHeartbeats 4000000 in
theorem made_any {op : Int} {l : List Vt} (hop : MadeOK op l) (hf : ∀ x ∈ l, Fits x.2.1) {Q : Nat → Prop} {w : World} {ao : Option Addr} {n c : Nat} (h : RowIs eVal Q w (.slice ao n c) l) :
    Calls Tryz.prog 126 #[.int .i64 op, .slice ao n c] w fun en w' => en = .returned (.tuple #[vV (madeP op l).1, .int .i64 (madeP op l).2]) ∧ Below w.heap.size w w' := by
  have hw := bal (Below.refl w.heap.size w) zV
  have hz := Bv.new w
  have h' := (h.mono (Q' := fun b => b < w.heap.size) (by decide) fun b _ hl => hl).keep (w' := w.alloc zV) (by decide) fun b _ hl => hw.block b hl
  by_cases hnum : isNumOp op = true
  · rw [show madeP op l = recP op l from if_pos hnum]
    have hn := numOp_is.1 hnum
    have HR : Hid _ := hid (reckoned_any (op := op) (by unfold MadeOK at hop; omega) hf h')
    generalize recP op l = R at *
    clear h h' hf hop hnum
    rcases hn with rfl | rfl | rfl | rfl
    all_goals
      go_enter Tryz.func126, Tryz.ntmps126
      go_wp2_with fail
      refine Calls.mono HR.out ?_
      rintro e w4 ⟨rfl, hb4⟩
      have hB4 := Below.on hw hb4
      have hz4 := hz.later hb4
      obtain ⟨c0, c1, c2⟩ := hz4.cells
      obtain ⟨f0, f1, f2⟩ := hz4.free
      have hl := hz4.lt
      clear HR hz hz4 hb4 hw
      go_wp2
      exact bodyPost_ret (v := .tuple #[vV R.1, .int .i64 R.2]) (by simp [results, Tryz.results126, go_sem, c0, c1, c2]) rfl ⟨rfl, below3 hB4 (Nat.le_refl _) _ _ _⟩
  · have hn : ¬ (op = 3 ∨ op = 5 ∨ op = 6 ∨ op = 7) := fun k => hnum (numOp_is.2 k)
    have h3 : ¬ op = 3 := by omega
    have g3 : decide (op = 3) = false := by simp; omega
    have h5 : ¬ op = 5 := by omega
    have g5 : decide (op = 5) = false := by simp; omega
    have h6 : ¬ op = 6 := by omega
    have g6 : decide (op = 6) = false := by simp; omega
    have h7 : ¬ op = 7 := by omega
    have g7 : decide (op = 7) = false := by simp; omega
    by_cases h4 : op = 4
    · subst h4
      obtain ⟨v, rfl⟩ : ∃ v, l = [v] := by
        have hl : l.length = 1 := by unfold MadeOK at hop; omega
        match l, hl with
        | [v], _ => exact ⟨v, rfl⟩
      rw [show madeP 4 [v] = (trV (!decide ((knP v 3).1 = 1)), (knP v 3).2) from rfl]
      obtain ⟨b, o, rfl, hbz, x0, x1, x2⟩ := val1 h' (k := 0) (by simp)
      obtain ⟨hn1, hnc, hcm⟩ := row_lens h'
      obtain rfl : n = 1 := by simpa using hn1.symm
      simp only [List.getElem_cons_zero, Nat.zero_mul, Nat.add_zero] at x0 x1 x2
      have HI : Hid _ := hid (intOfV_any v 3)
      generalize knP v 3 = K at *
      have HT : Hid _ := hid (truthE_any (!decide (K.1 = 1)))
      have hD : (K.1 != 1) = !decide (K.1 = 1) := by rw [Bool.eq_iff_iff]; simp
      generalize (!decide (K.1 = 1)) = D at *
      obtain ⟨v0, v1, v2⟩ := v
      clear h h' hf hop hnum hn hn1
      go_enter Tryz.func126, Tryz.ntmps126
      go_wp2_with fail
      refine Calls.mono (HI.out _) ?_
      rintro e w4 ⟨rfl, hb4⟩
      go_wp2_with fail
      refine Calls.mono (HT.out _) ?_
      rintro e w5 ⟨rfl, hb5⟩
      have hB5 := Below.on (Below.on hw hb4) hb5
      have hz5 := (hz.later hb4).later hb5
      obtain ⟨c0, c1, c2⟩ := hz5.cells
      obtain ⟨f0, f1, f2⟩ := hz5.free
      have hl := hz5.lt
      clear HI HT hz hz5 hb4 hb5 hw hD
      go_wp2
      exact bodyPost_ret (v := .tuple #[vV (trV D), .int .i64 K.2]) (by simp [results, Tryz.results126, go_sem, c0, c1, c2]) rfl ⟨rfl, below3 hB5 (Nat.le_refl _) _ _ _⟩
    · have g4 : decide (op = 4) = false := by simpa using h4
      obtain ⟨u, v, rfl⟩ : ∃ u v, l = [u, v] := by
        have hl : l.length = 2 := by unfold MadeOK at hop; omega
        match l, hl with
        | [u, v], _ => exact ⟨u, v, rfl⟩
      rw [show madeP op [u, v] = cmpdP op u v from by unfold madeP; rw [if_neg hnum, if_neg h4]; rfl]
      obtain ⟨b, o, rfl, hbz, x0, x1, x2⟩ := val1 h' (k := 0) (by simp)
      obtain ⟨b', o', e', -, y0, y1, y2⟩ := val1 h' (k := 1) (by simp)
      cases e'
      obtain ⟨hn1, hnc, hcm⟩ := row_lens h'
      obtain rfl : n = 2 := by simpa using hn1.symm
      simp only [List.getElem_cons_zero, List.getElem_cons_succ, Nat.zero_mul, Nat.one_mul, Nat.add_zero] at x0 x1 x2 y0 y1 y2
      have HC : Hid _ := hid (compared_any op u v)
      generalize cmpdP op u v = R at *
      obtain ⟨u0, u1, u2⟩ := u
      obtain ⟨v0, v1, v2⟩ := v
      clear h h' hf hop hnum hn hn1
      generalize hW : w.alloc zV = W at *
      have hY : Below W.heap.size W W.drew := (Below.refl _ W).drew
      have bx : Bk W.drew w.heap.size zV := ⟨hz.row⟩
      clear hz
      go_enter Tryz.func126, Tryz.ntmps126
      go_upto_region 10 with fail
      (try rw [hW])
      clear hW
      generalize hz : w.heap.size = z at bx hbz ⊢
      refine wp_region_held_drew (S := fun w' => w'.cell? ⟨b, o, none⟩ = some (.int .i64 u0) ∧ w'.cell? ⟨b, o + 1, none⟩ = some (.int .i64 u1) ∧ w'.cell? ⟨b, o + 2, none⟩ = some (.string u2) ∧ w'.cell? ⟨b, o + 3, none⟩ = some (.int .i64 v0) ∧ w'.cell? ⟨b, o + 3 + 1, none⟩ = some (.int .i64 v1) ∧ w'.cell? ⟨b, o + 3 + 2, none⟩ = some (.string v2)) (by kernel_rfl) (⟨cell_later hY x0, cell_later hY x1, cell_later hY x2, cell_later hY y0, cell_later hY y1, cell_later hY y2⟩) (fun hHeld => ?_)
      refine wpAnyH_take (i := 0) (v := ?tv1) rfl (by kernel_rfl) (by kernel_rfl) (by kernel_rfl) (fun _ _ _ h => h) (Or.inl ⟨by rfl, ?hy1⟩) (by assumption) ?rs1
      case hy1 => (intro w9 hSw; (try dsimp only at hSw); go_simp; (try with_reducible rfl))
      (try simp only [Act.put, List.getElem_toArray, List.getElem_cons_zero, List.getElem_cons_succ, List.setIfInBounds_toArray, List.set_cons_zero, List.set_cons_succ])
      refine wpAnyH_take (i := 1) (v := ?tv2) rfl (by kernel_rfl) (by kernel_rfl) (by kernel_rfl) (fun _ _ _ h => h) (Or.inl ⟨by rfl, ?hy2⟩) (by assumption) ?rs2
      case hy2 => (intro w9 hSw; (try dsimp only at hSw); go_simp; (try with_reducible rfl))
      (try simp only [Act.put, List.getElem_toArray, List.getElem_cons_zero, List.getElem_cons_succ, List.setIfInBounds_toArray, List.set_cons_zero, List.set_cons_succ])
      refine wpAnyH_take (i := 2) (v := ?tv3) rfl (by kernel_rfl) (by kernel_rfl) (by kernel_rfl) (fun _ _ _ h => h) (Or.inl ⟨by rfl, ?hy3⟩) (by assumption) ?rs3
      case hy3 => (intro w9 hSw; (try dsimp only at hSw); go_simp; (try with_reducible rfl))
      (try simp only [Act.put, List.getElem_toArray, List.getElem_cons_zero, List.getElem_cons_succ, List.setIfInBounds_toArray, List.set_cons_zero, List.set_cons_succ])
      refine wpAnyH_take (i := 3) (v := ?tv4) rfl (by kernel_rfl) (by kernel_rfl) (by kernel_rfl) (fun _ _ _ h => h) (Or.inl ⟨by rfl, ?hy4⟩) (by assumption) ?rs4
      case hy4 => (intro w9 hSw; (try dsimp only at hSw); go_simp; (try with_reducible rfl))
      (try simp only [Act.put, List.getElem_toArray, List.getElem_cons_zero, List.getElem_cons_succ, List.setIfInBounds_toArray, List.set_cons_zero, List.set_cons_succ])
      refine wpAnyH_take (i := 4) (v := ?tv5) rfl (by kernel_rfl) (by kernel_rfl) (by kernel_rfl) (fun _ _ _ h => h) (Or.inl ⟨by rfl, ?hy5⟩) (by assumption) ?rs5
      case hy5 => (intro w9 hSw; (try dsimp only at hSw); go_simp; (try with_reducible rfl))
      (try simp only [Act.put, List.getElem_toArray, List.getElem_cons_zero, List.getElem_cons_succ, List.setIfInBounds_toArray, List.set_cons_zero, List.set_cons_succ])
      refine wpAnyH_take (i := 5) (v := ?tv6) rfl (by kernel_rfl) (by kernel_rfl) (by kernel_rfl) (fun _ _ _ h => h) (Or.inl ⟨by rfl, ?hy6⟩) (by assumption) ?rs6
      case hy6 => (intro w9 hSw; (try dsimp only at hSw); go_simp; (try with_reducible rfl))
      (try simp only [Act.put, List.getElem_toArray, List.getElem_cons_zero, List.getElem_cons_succ, List.setIfInBounds_toArray, List.set_cons_zero, List.set_cons_succ])
      refine wpAnyH_take (i := 6) (v := ?tv7) rfl (by kernel_rfl) (by kernel_rfl) (by kernel_rfl) (fun _ _ _ h => h) (Or.inl ⟨by rfl, ?hy7⟩) (by assumption) ?rs7
      case hy7 => (intro w9 hSw; (try dsimp only at hSw); go_simp; (try with_reducible rfl))
      (try simp only [Act.put, List.getElem_toArray, List.getElem_cons_zero, List.getElem_cons_succ, List.setIfInBounds_toArray, List.set_cons_zero, List.set_cons_succ])
      refine wpAnyH_ready (rs := [7]) (by kernel_rfl) (by simp) ?_
      refine AllReadyH.cons rfl (fun K hK => ?_) AllReadyH.nil
      go_simp
      go_wp2_with (first | (go_at_call 142; (refine Calls.mono (HC.out _) ?_); rintro e y ⟨rfl, hby⟩; replace bx := bx.later hby; replace hY := Below.on hY hby))
      refine hK.out _ _ (⟨cell_later hY x0, cell_later hY x1, cell_later hY x2, cell_later hY y0, cell_later hY y1, cell_later hY y2⟩) (fun hHeld => ?_)
      clear hK K
      (try simp only [Act.put, List.getElem_toArray, List.getElem_cons_zero, List.getElem_cons_succ, List.setIfInBounds_toArray, List.set_cons_zero, List.set_cons_succ])
      refine wpAnyH_take (i := 8) (v := ?tv8) rfl (by kernel_rfl) (by kernel_rfl) (by kernel_rfl) (fun _ _ _ h => h) (Or.inl ⟨by rfl, ?hy8⟩) (by assumption) ?rs8
      case hy8 => (intro w9 hSw; (try dsimp only at hSw); go_simp; (try with_reducible rfl))
      (try simp only [Act.put, List.getElem_toArray, List.getElem_cons_zero, List.getElem_cons_succ, List.setIfInBounds_toArray, List.set_cons_zero, List.set_cons_succ])
      refine wpAnyH_take (i := 9) (v := ?tv9) rfl (by kernel_rfl) (by kernel_rfl) (by kernel_rfl) (fun _ _ _ h => h) (Or.inl ⟨by rfl, ?hy9⟩) (by assumption) ?rs9
      case hy9 => (intro w9 hSw; (try dsimp only at hSw); go_simp; (try with_reducible rfl))
      (try simp only [Act.put, List.getElem_toArray, List.getElem_cons_zero, List.getElem_cons_succ, List.setIfInBounds_toArray, List.set_cons_zero, List.set_cons_succ])
      refine wpAnyH_ready (rs := [10]) (by kernel_rfl) (by simp) ?_
      refine AllReadyH.cons rfl (fun K hK => ?_) AllReadyH.nil
      have hth : y.there z 0 3 := bx.there rfl
      have z0 := stW_cell (l := [.int .i64 R.1.1, .int .i64 R.1.2.1, .string R.1.2.2]) hth (j := 0) rfl
      have z1 := stW_cell (l := [.int .i64 R.1.1, .int .i64 R.1.2.1, .string R.1.2.2]) hth (j := 1) rfl
      have z2 := stW_cell (l := [.int .i64 R.1.1, .int .i64 R.1.2.1, .string R.1.2.2]) hth (j := 2) rfl
      rw [if_pos (by rfl)]
      refine wp_store_mid _ _ _ rfl z 0 (List.toArray [.int .i64 R.1.1, .int .i64 R.1.2.1, .string R.1.2.2]) rfl rfl hth (by kernel_rfl) (by simp [Value.oneCell']) ?_
      show K _ (stW y z [.int .i64 R.1.1, .int .i64 R.1.2.1, .string R.1.2.2])
      refine hK.out _ _ (⟨stW_far (by omega) (cell_later hY x0), stW_far (by omega) (cell_later hY x1), stW_far (by omega) (cell_later hY x2), stW_far (by omega) (cell_later hY y0), stW_far (by omega) (cell_later hY y1), stW_far (by omega) (cell_later hY y2)⟩) (fun hHeld => ?_)
      clear hK K hth
      (try simp only [Act.put, List.getElem_toArray, List.getElem_cons_zero, List.getElem_cons_succ, List.setIfInBounds_toArray, List.set_cons_zero, List.set_cons_succ])
      refine wpAnyH_ready (rs := [11]) (by kernel_rfl) (by simp) ?_
      refine AllReadyH.cons rfl (fun K hK => ?_) AllReadyH.nil
      go_simp
      refine hK.out _ _ (⟨stW_far (by omega) (cell_later hY x0), stW_far (by omega) (cell_later hY x1), stW_far (by omega) (cell_later hY x2), stW_far (by omega) (cell_later hY y0), stW_far (by omega) (cell_later hY y1), stW_far (by omega) (cell_later hY y2)⟩) (fun hHeld => ?_)
      clear hK K
      (try simp only [Act.put, List.getElem_toArray, List.getElem_cons_zero, List.getElem_cons_succ, List.setIfInBounds_toArray, List.set_cons_zero, List.set_cons_succ])
      refine wpAnyH_done (by kernel_rfl) ?_ _
      · have hW := Below.trans hw (hY.mono (by have := hw.size; omega))
        clear hY bx
        go_wp2
        refine bodyPost_ret (v := .tuple #[vV R.1, .int .i64 R.2]) (by simp [results, Tryz.results126, go_sem, z0, z1, z2]) rfl ⟨rfl, stW_below hW (by omega)⟩

end Go.Proofs.YtnlaaejdianfjaaGreat
namespace Go.Proofs.YtnlaaejdianfjaaGreat
open Go.RowKit
set_option linter.unusedVariables false
set_option linter.unusedSimpArgs false

set_option maxRecDepth 100000 in
set_option maxHeartbeats 2000000 in
theorem idxIt_any {l : List It} {p : It → Bool} (hlen : l.length ≤ 500) {Q : Nat → Prop} {w : World} {ao : Option Addr} {n c : Nat} (h : RowIs eItem Q w (.slice ao n c) l) {v : Value} (hv : SuchZ eItem p w v) :
    Calls Tryz.prog 64 #[.slice ao n c, v] w fun en w' => en = .returned (.int .i64 (fidx p l)) ∧ Below w.heap.size w w' := by
  have HR : Hid (∀ w', Below w.heap.size w w' → RowIs eItem Q w' (.slice ao n c) l) := hid fun w' hb => h.keep (by decide) fun b _ hl => hb.block b hl
  obtain ⟨N, caps, rfl, hcf, hN⟩ := hv
  have HN : Hid (∀ (x : It) (Q : Nat → Prop) (cs : List Value) (w' : World), Below w.heap.size w w' → _) := hid hN
  obtain ⟨ao', n', c', e', hn, hnc, hc, _⟩ := h
  cases e'
  subst hn
  obtain ⟨R, hR⟩ : ∃ R, fidx p l = R := ⟨_, rfl⟩
  have HF : Hid _ := hid hR
  rw [hR]
  clear hN hR
  go_enter Tryz.func64, Tryz.ntmps64
  go_wp2
  go_loopw [5, 8] (fun _ v8 wr => ∃ k : Nat, k ≤ l.length ∧ v8 = .int .i64 k ∧ Below w.heap.size w wr ∧ Hid (∀ i (hi : i < l.length), i < k → p l[i] = false)) (fun _ i _ => l.length - (intOf i).toNat)
  case atStart => exact ⟨0, Nat.zero_le _, rfl, Below.refl _ _, hid fun i h hi => absurd hi (by omega)⟩
  case round =>
    obtain ⟨k, hk, rfl, hB, HE⟩ := hrel
    by_cases hlt : k < l.length
    · obtain ⟨_, _, _, e', _, _, _, hx⟩ := HR.out wr hB
      cases e'
      obtain ⟨b, o, rfl, hq, hi⟩ := hx (by omega)
      obtain ⟨cs, hEx, h2, h3⟩ := hi k hlt
      obtain ⟨x, hxl⟩ : ∃ x, l[k] = x := ⟨_, rfl⟩
      rw [hxl] at hEx
      have hEx' := hEx
      obtain rfl := hEx'
      have c0 : wr.cell? ⟨b, o + k * 3, none⟩ = some (.int .i64 x.1) := h3 0 (show 0 < 3 by decide)
      have c1 : wr.cell? ⟨b, o + k * 3 + 1, none⟩ = some (.string x.2.1) := h3 1 (show 1 < 3 by decide)
      have c2 : wr.cell? ⟨b, o + k * 3 + 2, none⟩ = some (.string x.2.2) := h3 2 (show 2 < 3 by decide)
      have HX := HN.out x _ _ wr hB hEx
      have hkm : (k : Int) < (l.length : Int) := by omega
      have hk5 : k ≤ 500 := by omega
      have HXl : Hid _ := hid hxl
      clear hEx h2 h3 hi hx hxl
      cases hp : p x with
      | true =>
        rw [hp] at HX
        have HP : Hid (fidx p l = k) := hid (fidx_hit hlt HE.out (by rw [HXl.out]; exact hp))
        replace HX : Hid _ := hid HX
        clear hp
        go_wp2_with fail
        refine Calls.mono HX.out ?_
        rintro e w4 ⟨rfl, hb4⟩
        have hB4 : Below w.heap.size w w4 := Below.on hB hb4
        clear HX hb4 hB
        go_wp2
        go_ret
        exact ⟨ret_int (by rw [← HF.out, HP.out]), hB4⟩
      | false =>
        rw [hp] at HX
        have HN2 : Hid (∀ i (hi : i < l.length), i < k + 1 → p l[i] = false) := hid fun i hi hik => by
          by_cases he : i < k
          · exact HE.out i hi he
          · obtain rfl : i = k := by omega
            rw [HXl.out]; exact hp
        replace HX : Hid _ := hid HX
        clear hp HE
        go_wp2_with fail
        refine Calls.mono HX.out ?_
        rintro e w4 ⟨rfl, hb4⟩
        have hB4 : Below w.heap.size w w4 := Below.on hB hb4
        clear HX hb4 hB
        go_wp2
        go_roundw
        case rel => exact ⟨k + 1, hlt, by go_num, hB4, HN2⟩
        case measure => simp only [intOf]; omega
    · obtain rfl : k = l.length := by omega
      have HP : Hid (fidx p l = -1) := hid (fidx_none fun i hi => HE.out i hi hi)
      clear HE
      go_wp2
      go_ret
      exact ⟨ret_int (by rw [← HF.out, HP.out]), hB⟩


theorem fidxV_any {α : Type} (p : α → Bool) (l : List α) : decide (0 ≤ fidx p l) = l.any p := by
  rw [Bool.eq_iff_iff, decide_eq_true_eq, List.any_eq_true]
  constructor
  · intro h
    rcases fidx_vals p l with e | ⟨k, e, hk⟩
    · omega
    · obtain ⟨hk', hp⟩ := fidx_at e
      exact ⟨_, List.getElem_mem hk', hp⟩
  · rintro ⟨x, hx, hp⟩
    rcases fidx_vals p l with e | ⟨k, e, hk⟩
    · exfalso
      unfold fidx at e
      split at e
      · omega
      · rename_i hn
        exact hn (List.findIdx_lt_length_of_exists ⟨x, hx, hp⟩)
    · omega
theorem emptyV_str (t : ByteArray) : t.toList.isEmpty = decide (t = ⟨#[]⟩) := by
  have h := same_str t ⟨#[]⟩
  rw [← h, ByteArray.toList_eq, ByteArray.toList_eq]
  cases t.data.toList <;> rfl
theorem neV_str {s t : ByteArray} (h : s ≠ t) : (s.toList == t.toList) = false := by rw [same_str]; simpa using h
theorem SuchZ.later {α : Type} {e : Ek α} {p : α → Bool} {w w' : World} {v : Value} (h : SuchZ e p w v) (hb : Below w.heap.size w w') : SuchZ e p w' v := by
  obtain ⟨N, caps, rfl, hcf, hN⟩ := h
  exact ⟨N, caps, rfl, hcf, fun x Q cs w2 hb2 hx => hN x Q cs w2 (Below.on hb hb2) hx⟩

set_option maxRecDepth 100000 in
set_option maxHeartbeats 2000000 in
theorem containsIt_any {l : List It} {p : It → Bool} (hlen : l.length ≤ 500) {Q : Nat → Prop} {w : World} {ao : Option Addr} {n c : Nat} (h : RowIs eItem Q w (.slice ao n c) l) {v : Value} (hv : SuchZ eItem p w v) :
    Calls Tryz.prog 34 #[.slice ao n c, v] w fun en w' => en = .returned (.bool (l.any p)) ∧ Below w.heap.size w w' := by
  have HC : Hid _ := hid (idxIt_any hlen h hv)
  have he := fidxV_any p l
  obtain ⟨N, caps, rfl, hcf, hN⟩ := hv
  clear h hN
  generalize fidx p l = R at *
  have HE : Hid _ := hid he
  clear he
  go_enter Tryz.func34, Tryz.ntmps34
  go_wp2_with fail
  refine Calls.mono HC.out ?_
  rintro e w4 ⟨rfl, hb4⟩
  go_wp2
  go_ret
  exact ⟨ret_bool HE.out, hb4⟩
set_option maxRecDepth 100000 in
theorem slice_itemsOff {ao : Option Addr} {n c k : Nat} (hr : k + 1 ≤ n) (hc : n ≤ c) (hm : c ≤ 9223372036854775807) (w' : World) : (Instr.slice 27 (.slice ao n c) (some (.int .i64 ((k : Int) + 1))) none none).run Tryz.prog w' = .ok (.slice (if c = k + 1 then ao else ao.map (·.add ((k + 1) * 3))) (n - (k + 1)) (c - (k + 1))) w' := by
  have g1 : ((k : Int) + 1) = ((k + 1 : Nat) : Int) := by omega
  rw [g1]
  generalize k + 1 = m at *
  have g2 : m ≤ c := by omega
  have g3 : (m : Int) ≤ (n : Int) := by omega
  have g4 : (n : Int) ≤ (c : Int) := by omega
  have g5 : ¬ (n : Int) < (m : Int) := by omega
  cases ao with
  | none => go_simp
  | some a => go_simp
theorem addV_off (b o m : Nat) : (⟨b, o, none⟩ : Addr).add m = ⟨b, o + m, none⟩ := by unfold Addr.add; split <;> simp_all
def onlyB {α : Type} (p : α → Bool) (l : List α) : Bool := decide (0 ≤ fidx p l) && !((l.drop ((fidx p l).toNat + 1)).any p)
set_option maxRecDepth 100000 in
set_option maxHeartbeats 2000000 in
theorem onlyIt_any {l : List It} {p : It → Bool} (hlen : l.length ≤ 500) {Q : Nat → Prop} {w : World} {ao : Option Addr} {n c : Nat} (h : RowIs eItem Q w (.slice ao n c) l) {v : Value} (hv : SuchZ eItem p w v) :
    Calls Tryz.prog 133 #[.slice ao n c, v] w fun en w' => en = .returned (.tuple #[.int .i64 (fidx p l), .bool (onlyB p l)]) ∧ Below w.heap.size w w' := by
  have HC : Hid _ := hid (idxIt_any hlen h hv)
  obtain ⟨hn, hnc, hcm⟩ := row_lens h
  have hv' := hv
  obtain ⟨N, caps, rfl, hcf, hN⟩ := hv'
  rcases fidx_vals p l with e | ⟨k, e, hk⟩
  · have hB : onlyB p l = false := by unfold onlyB; rw [e]; simp
    rw [hB, e]
    rw [e] at HC
    clear hB h hv hN
    go_enter Tryz.func133, Tryz.ntmps133
    go_wp2_with fail
    refine Calls.mono HC.out ?_
    rintro e w4 ⟨rfl, hb4⟩
    clear HC
    go_wp2
    exact bodyPost_ret (v := .tuple #[.int .i64 (-1), .bool false]) (by simp [results, Tryz.results133]) rfl ⟨rfl, hb4⟩
  · have hB : onlyB p l = !((l.drop (k + 1)).any p) := by unfold onlyB; rw [e]; simp
    rw [hB, e]
    rw [e] at HC
    have hsl := fun w' => slice_itemsOff (ao := ao) (n := n) (c := c) (k := k) (by omega) hnc hcm w'
    obtain ⟨ao', hao⟩ : ∃ ao', (if c = k + 1 then ao else ao.map (·.add ((k + 1) * 3))) = ao' := ⟨_, rfl⟩
    rw [hao] at hsl
    have HS : Hid (∀ w', Below w.heap.size w w' → Calls Tryz.prog 34 #[.slice ao' (n - (k + 1)) (c - (k + 1)), .func (.func N) #[] caps] w' fun en w'' => en = .returned (.bool ((l.drop (k + 1)).any p)) ∧ Below w'.heap.size w' w'') := hid fun w' hb =>
      containsIt_any (by rw [List.length_drop]; omega) ((h.keep (by decide) fun b _ hl => hb.block b hl).off (m := k + 1) (by omega) (fun b o e' hlt => by rw [← hao, if_neg (by omega), e', Option.map_some, addV_off]; rfl)) (hv.later hb)
    generalize (l.drop (k + 1)).any p = T at *
    generalize n - (k + 1) = n' at *
    generalize c - (k + 1) = c' at *
    have hk5 : k ≤ 500 := by omega
    clear hB h hv hN hao
    go_enter Tryz.func133, Tryz.ntmps133
    go_wp2_with fail
    refine Calls.mono HC.out ?_
    rintro e w4 ⟨rfl, hb4⟩
    have HS2 : Hid _ := hid (HS.out _ hb4)
    clear HC HS
    go_wp2_with fail
    refine Calls.mono HS2.out ?_
    rintro e w5 ⟨rfl, hb5⟩
    have hB5 := Below.on hb4 hb5
    clear HS2 hb4 hb5
    go_wp2
    exact bodyPost_ret (v := .tuple #[.int .i64 k, .bool (!T)]) (by simp [results, Tryz.results133]) rfl ⟨rfl, hB5⟩

set_option maxRecDepth 100000 in
set_option maxHeartbeats 2000000 in
theorem columnV1_any (tb nm : ByteArray) (x : It) {w : World} {b1 b2 : Nat} (h1 : w.cell? ⟨b1, 0, none⟩ = some (.string nm)) (h2 : w.cell? ⟨b2, 0, none⟩ = some (.string tb)) :
    Calls Tryz.prog 134 #[.agg #[.int .i64 x.1, .string x.2.1, .string x.2.2], .pointer (some ⟨b1, 0, none⟩), .pointer (some ⟨b2, 0, none⟩)] w fun en w' => en = .returned (.bool (itV tb nm x)) ∧ Below w.heap.size w w' := by
  obtain ⟨x1, x2, x3⟩ := x
  have hb := bal (Below.refl w.heap.size w) (.cells #[.int .i64 x1, .string x2, .string x3] 50)
  have q1 := cell_later hb h1
  have q2 := cell_later hb h2
  have d1 := cell_new w #[.int .i64 x1, .string x2, .string x3] 50 (0, 0) 1
  have d2 := cell_new w #[.int .i64 x1, .string x2, .string x3] 50 (0, 0) 2
  simp only [List.getElem?_toArray, List.getElem?_cons_zero, List.getElem?_cons_succ] at d1 d2
  have HT : Hid (itV tb nm (x1, x2, x3) = (decide (x3 = nm) && (decide (tb = ⟨#[]⟩) || decide (x2 = tb)))) := hid rfl
  generalize itV tb nm (x1, x2, x3) = T at *
  clear h1 h2
  go_enter Tryz.func134, Tryz.ntmps134
  go_upto_region 1 with fail
  generalize w.alloc (.cells #[.int .i64 x1, .string x2, .string x3] 50) = W at *
  by_cases h1 : x3 = nm
  · have HT2 : Hid (T = (decide (tb = ⟨#[]⟩) || decide (x2 = tb))) := hid (by rw [HT.out, h1]; simp)
    by_cases h2 : tb = ⟨#[]⟩
    · have HT3 : Hid (T = true) := hid (by rw [HT2.out, h2]; simp)
      have e1 : decide (x3 = nm) = true := by simpa using h1
      have e2 : decide (tb = ⟨#[]⟩) = true := by simpa using h2
      subst h1
      subst h2
      clear HT HT2
      go_wp2
      go_ret
      exact ⟨ret_bool HT3.out.symm, hb⟩
    · have HT3 : Hid (T = decide (x2 = tb)) := hid (by rw [HT2.out]; simp [h2])
      have e2 : tb.toList.isEmpty = false := by rw [emptyV_str]; simpa using h2
      have e3 : (x2.toList == tb.toList) = T := by rw [HT3.out, same_str]
      subst h1
      clear HT HT2
      go_wp2
      go_ret
      exact ⟨rfl, hb⟩
  · have HT3 : Hid (T = false) := hid (by rw [HT.out]; simp [h1])
    have e1 : (x3.toList == nm.toList) = false := neV_str h1
    clear HT
    go_wp2
    go_ret
    exact ⟨ret_bool HT3.out.symm, hb⟩

set_option maxRecDepth 100000 in
set_option maxHeartbeats 2000000 in
theorem columnV_any {C : List It} {V : List Vt} (hlen : C.length ≤ 500) (hCV : C.length = V.length) (tb nm : ByteArray) {Q Q2 : Nat → Prop} {w : World} {a a2 : Option Addr} {n c n2 c2 : Nat} (hC : RowIs eItem Q w (.slice a n c) C) (hV : RowIs eVal Q2 w (.slice a2 n2 c2) V) :
    Calls Tryz.prog 123 #[.agg #[.slice a n c, .slice a2 n2 c2], .string tb, .string nm] w fun en w' => en = .returned (.tuple #[vV (colV C V tb nm).1, .int .i64 (colV C V tb nm).2]) ∧ Below w.heap.size w w' := by
  have hw := bal (bal (bal (bal (Below.refl w.heap.size w) (.cells #[.slice a n c, .slice a2 n2 c2] 157)) (.cells #[.string tb] 9)) (.cells #[.string nm] 9)) zV
  obtain ⟨hn2, hnc2, hcm2⟩ := row_lens hV
  obtain ⟨hn1, hnc1, hcm1⟩ := row_lens hC
  have bS : Bk ((((w.alloc (.cells #[.slice a n c, .slice a2 n2 c2] 157)).alloc (.cells #[.string tb] 9)).alloc (.cells #[.string nm] 9)).alloc zV) w.heap.size (.cells #[.slice a n c, .slice a2 n2 c2] 157) := (((Bk.new w _).later (bal (Below.refl _ _) _)).later (bal (Below.refl _ _) _)).later (bal (Below.refl _ _) _)
  have bT : Bk ((((w.alloc (.cells #[.slice a n c, .slice a2 n2 c2] 157)).alloc (.cells #[.string tb] 9)).alloc (.cells #[.string nm] 9)).alloc zV) (w.heap.size + 1) (.cells #[.string tb] 9) := by
    have := ((Bk.new (w.alloc (.cells #[.slice a n c, .slice a2 n2 c2] 157)) (.cells #[.string tb] 9)).later (bal (Below.refl _ _) (.cells #[.string nm] 9))).later (bal (Below.refl _ _) zV)
    rwa [World.size_alloc] at this
  have bN : Bk ((((w.alloc (.cells #[.slice a n c, .slice a2 n2 c2] 157)).alloc (.cells #[.string tb] 9)).alloc (.cells #[.string nm] 9)).alloc zV) (w.heap.size + 2) (.cells #[.string nm] 9) := by
    have := (Bk.new ((w.alloc (.cells #[.slice a n c, .slice a2 n2 c2] 157)).alloc (.cells #[.string tb] 9)) (.cells #[.string nm] 9)).later (bal (Below.refl _ _) zV)
    rwa [World.size_alloc, World.size_alloc] at this
  have hz : Bv ((((w.alloc (.cells #[.slice a n c, .slice a2 n2 c2] 157)).alloc (.cells #[.string tb] 9)).alloc (.cells #[.string nm] 9)).alloc zV) (w.heap.size + 3) 0 0 ⟨#[]⟩ := by
    have := Bv.new (((w.alloc (.cells #[.slice a n c, .slice a2 n2 c2] 157)).alloc (.cells #[.string tb] 9)).alloc (.cells #[.string nm] 9))
    rwa [World.size_alloc, World.size_alloc, World.size_alloc] at this
  generalize hW : (((w.alloc (.cells #[.slice a n c, .slice a2 n2 c2] 157)).alloc (.cells #[.string tb] 9)).alloc (.cells #[.string nm] 9)).alloc zV = W at hw bS bT bN hz
  have s0 := bS.cell 0
  have s1 := bS.cell 1
  have t0 := bT.cell 0
  have n0 := bN.cell 0
  simp only [List.getElem?_toArray, List.getElem?_cons_zero, List.getElem?_cons_succ] at s0 s1 t0 n0
  have HS : SuchZ eItem (itV tb nm) W (.func (.func 134) #[] #[.pointer (some ⟨w.heap.size + 2, 0, none⟩), .pointer (some ⟨w.heap.size + 1, 0, none⟩)]) :=
    ⟨_, _, rfl, fun args w' => by rfl, fun x Q cs w' hb hx => by
      have hx' : cs = [.int .i64 x.1, .string x.2.1, .string x.2.2] := hx
      subst hx'
      exact columnV1_any tb nm x (cell_later hb n0) (cell_later hb t0)⟩
  have HC : Hid _ := hid (onlyIt_any hlen (hC.keep (by decide) fun b _ hl => hw.block b hl) HS)
  have hV1 := hV.keep (w' := W) (by decide) fun b _ hl => hw.block b hl
  clear hC hV bS bT bN HS t0 n0
  cases ho : onlyB (itV tb nm) C with
  | false =>
    rw [ho] at HC
    have hR : colV C V tb nm = (vZ, 10) := by
      unfold colV
      rw [if_neg]
      intro hh
      rw [onlyB, hh.2, Bool.not_false, Bool.and_true, decide_eq_false_iff_not] at ho
      exact ho hh.1
    rw [hR]
    clear hR ho hV1
    generalize fidx (itV tb nm) C = K at *
    go_enter Tryz.func123, Tryz.ntmps123
    go_wp2_with fail
    refine Calls.mono HC.out ?_
    rintro e w4 ⟨rfl, hb4⟩
    have hB4 := Below.on hw hb4
    have hz4 := hz.later hb4
    obtain ⟨c0, c1, c2⟩ := hz4.cells
    obtain ⟨f0, f1, f2⟩ := hz4.free
    have hl := hz4.lt
    clear HC hz hz4 hb4 hw hW
    go_wp2
    exact bodyPost_ret (v := .tuple #[vV vZ, .int .i64 10]) (by simp [results, Tryz.results123, go_sem, c0, c1, c2]) rfl ⟨rfl, below3 hB4 (by omega) _ _ _⟩
  | true =>
    rw [ho] at HC
    have ho' := ho
    rw [onlyB, Bool.and_eq_true, decide_eq_true_eq, Bool.not_eq_true'] at ho'
    rcases fidx_vals (itV tb nm) C with e | ⟨k, e, hk⟩
    · omega
    have hkV : k < V.length := by omega
    have hR : colV C V tb nm = (V[k], 0) := by
      unfold colV
      rw [if_pos ho', e, Int.toNat_natCast, List.getElem?_eq_getElem hkV]
      rfl
    obtain ⟨x, hx⟩ : ∃ x, V[k] = x := ⟨_, rfl⟩
    rw [hx] at hR
    rw [hR]
    rw [e] at HC
    obtain ⟨b, o, rfl, -, x0, x1, x2⟩ := val1 hV1 hkV
    rw [hx] at x0 x1 x2
    have hkn : (k : Int) < (n2 : Int) := by omega
    have hk5 : k ≤ 500 := by omega
    clear hR ho ho' hV1 hx e hCV hlen
    go_enter Tryz.func123, Tryz.ntmps123
    go_wp2_with fail
    refine Calls.mono HC.out ?_
    rintro e w4 ⟨rfl, hb4⟩
    have hB4 := Below.on hw hb4
    have hz4 := hz.later hb4
    obtain ⟨c0, c1, c2⟩ := hz4.cells
    obtain ⟨f0, f1, f2⟩ := hz4.free
    have hl := hz4.lt
    replace s1 := cell_later hb4 s1
    replace x0 := cell_later hb4 x0
    replace x1 := cell_later hb4 x1
    replace x2 := cell_later hb4 x2
    obtain ⟨v0, v1, v2⟩ := x
    clear HC hz hz4 hb4 hw hW s0
    go_wp2
    exact bodyPost_ret (v := .tuple #[vV (v0, v1, v2), .int .i64 0]) (by simp [results, Tryz.results123, go_sem, c0, c1, c2]) rfl ⟨rfl, below3 hB4 (by omega) _ _ _⟩

end Go.Proofs.YtnlaaejdianfjaaGreat
