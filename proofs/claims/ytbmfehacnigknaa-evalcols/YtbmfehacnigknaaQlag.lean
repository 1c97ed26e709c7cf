import Derived.Test.YtbmfehacnigknaaQlaf
namespace Go.Proofs.Ytbmfehacnigknaa
open Go.RowKit
set_option linter.unusedVariables false
set_option linter.unusedSimpArgs false

set_option maxRecDepth 100000 in
theorem slice_itemsUp {ao : Option Addr} {n c : Nat} (hc : n ≤ c) (w' : World) : (Instr.slice 33 (.slice ao n c) none (some (.int .i64 n)) none).run Try.prog w' = .ok (.slice ao n c) w' := by
  have e0 : ∀ a : Addr, a.add 0 = a := fun a => by unfold Addr.add; simp
  have hrc' : (n : Int) ≤ (c : Int) := by omega
  cases ao with
  | none => go_simp
  | some a => go_simp
set_option maxRecDepth 100000 in
theorem slice_valsUp {ao : Option Addr} {n c : Nat} (hc : n ≤ c) (w' : World) : (Instr.slice 45 (.slice ao n c) none (some (.int .i64 n)) none).run Try.prog w' = .ok (.slice ao n c) w' := by
  have e0 : ∀ a : Addr, a.add 0 = a := fun a => by unfold Addr.add; simp
  have hrc' : (n : Int) ≤ (c : Int) := by omega
  cases ao with
  | none => go_simp
  | some a => go_simp
theorem Bk.st3 {y : World} {q : Nat} {a b c : Value} {t : TypeId} (h : Bk y q (.cells #[a, b, c] t (0, 0))) (u v z : Value) : Bk (stW y q [u, v, z]) q (.cells #[u, v, z] t (0, 0)) := ⟨by
  show (((y.setCell ⟨q, 0, none⟩ u).setCell ⟨q, 0 + 1, none⟩ v).setCell ⟨q, 0 + 1 + 1, none⟩ z).heap[q]? = _
  simp [World.setCell, Array.getElem?_modify, h.row]⟩
theorem Bk.set2 {y : World} {q : Nat} {a b c : Value} {t : TypeId} (h : Bk y q (.cells #[a, b, c] t (0, 0))) (u : Value) : Bk (y.setCell ⟨q, 2, none⟩ u) q (.cells #[a, b, u] t (0, 0)) := ⟨by simp [World.setCell, Array.getElem?_modify, h.row]⟩
theorem Bv.far {y : World} {q b : Nat} {k i : Int} {s : ByteArray} (h : Bv y b k i s) (hne : b ≠ q) (l : List Value) : Bv (stW y q l) b k i s := ⟨(stW_heap hne).trans h.row⟩
theorem Bv.farS {y : World} {q j b : Nat} {k i : Int} {s : ByteArray} (h : Bv y b k i s) (hne : b ≠ q) (v : Value) : Bv (y.setCell ⟨q, j, none⟩ v) b k i s := ⟨(Below.heap_setCell _ _ _ _ hne).trans h.row⟩

set_option maxRecDepth 100000 in
set_option maxHeartbeats 4000000 in
theorem pairedV_any {a : Option Addr} {n c : Nat} {a2 : Option Addr} {c2 : Nat} (h1 : n ≤ c) (h2 : n ≤ c2) (hc1 : c ≤ 9223372036854775807) (hc2 : c2 ≤ 9223372036854775807) (w : World) : Calls Try.prog 25 #[.slice a n c, .slice a2 n c2] w fun en w' => en = .returned (.agg #[.slice a n c, .slice a2 n c2]) ∧ Below w.heap.size w w' := by
  have hw := bal (Below.refl w.heap.size w) (.cells #[.slice none 0 0, .slice none 0 0] 74)
  have bx : Bk (w.alloc (.cells #[.slice none 0 0, .slice none 0 0] 74)) w.heap.size (.cells #[.slice none 0 0, .slice none 0 0] 74) := Bk.new w _
  have e1 := fun w' => slice_itemsUp (ao := a) h1 w'
  have e2 := fun w' => slice_valsUp (ao := a2) h2 w'
  go_enter Try.func25, Try.ntmps25
  go_upto_region 2 with fail
  generalize w.alloc (.cells #[.slice none 0 0, .slice none 0 0] 74) = W at *
  replace bx : Bk W.drew w.heap.size (.cells #[.slice none 0 0, .slice none 0 0] 74) := ⟨bx.row⟩
  have hY : Below w.heap.size w W.drew := hw.drew
  generalize hz : w.heap.size = z at bx ⊢
  refine wp_region_held_drew (S := fun w' => True) (by kernel_rfl) (trivial) (fun hHeld => ?_)
  refine wpAnyH_take (i := 0) (v := ?tv1) rfl (by kernel_rfl) (by kernel_rfl) (by kernel_rfl) (fun _ _ _ h => h) (Or.inl ⟨by rfl, ?hy1⟩) (by assumption) ?rs1
  case hy1 => (intro w9 hSw; (try dsimp only at hSw); go_simp; (try with_reducible rfl))
  (try simp only [Act.put, List.getElem_toArray, List.getElem_cons_zero, List.getElem_cons_succ, List.setIfInBounds_toArray, List.set_cons_zero, List.set_cons_succ])
  refine wpAnyH_take (i := 1) (v := ?tv2) rfl (by kernel_rfl) (by kernel_rfl) (by kernel_rfl) (fun _ _ _ h => h) (Or.inl ⟨by rfl, ?hy2⟩) (by assumption) ?rs2
  case hy2 => (intro w9 hSw; (try dsimp only at hSw); go_simp; (try with_reducible rfl))
  (try simp only [Act.put, List.getElem_toArray, List.getElem_cons_zero, List.getElem_cons_succ, List.setIfInBounds_toArray, List.set_cons_zero, List.set_cons_succ])
  refine wpAnyH_take (i := 2) (v := ?tv3) rfl (by kernel_rfl) (by kernel_rfl) (by kernel_rfl) (fun _ _ _ h => h) (Or.inl ⟨by rfl, ?hy3⟩) (by assumption) ?rs3
  case hy3 => (intro w9 hSw; (try dsimp only at hSw); go_simp; (try with_reducible rfl))
  (try simp only [Act.put, List.getElem_toArray, List.getElem_cons_zero, List.getElem_cons_succ, List.setIfInBounds_toArray, List.set_cons_zero, List.set_cons_succ])
  refine wpAnyH_take (i := 3) (v := ?tv4) rfl (by kernel_rfl) (by kernel_rfl) (by kernel_rfl) (fun _ _ _ h => h) (Or.inl ⟨by rfl, ?hy4⟩) (by assumption) ?rs4
  case hy4 => (intro w9 hSw; (try dsimp only at hSw); go_simp; (try with_reducible rfl))
  (try simp only [Act.put, List.getElem_toArray, List.getElem_cons_zero, List.getElem_cons_succ, List.setIfInBounds_toArray, List.set_cons_zero, List.set_cons_succ])
  refine wpAnyH_take (i := 4) (v := ?tv5) rfl (by kernel_rfl) (by kernel_rfl) (by kernel_rfl) (fun _ _ _ h => h) (Or.inl ⟨by rfl, ?hy5⟩) (by assumption) ?rs5
  case hy5 => (intro w9 hSw; (try dsimp only at hSw); go_simp; (try with_reducible rfl))
  (try simp only [Act.put, List.getElem_toArray, List.getElem_cons_zero, List.getElem_cons_succ, List.setIfInBounds_toArray, List.set_cons_zero, List.set_cons_succ])
  refine wpAnyH_take (i := 5) (v := ?tv6) rfl (by kernel_rfl) (by kernel_rfl) (by kernel_rfl) (fun _ _ _ h => h) (Or.inl ⟨by rfl, ?hy6⟩) (by assumption) ?rs6
  case hy6 => (intro w9 hSw; (try dsimp only at hSw); go_simp; (try with_reducible rfl))
  (try simp only [Act.put, List.getElem_toArray, List.getElem_cons_zero, List.getElem_cons_succ, List.setIfInBounds_toArray, List.set_cons_zero, List.set_cons_succ])
  refine wpAnyH_take (i := 6) (v := ?tv7) rfl (by kernel_rfl) (by kernel_rfl) (by kernel_rfl) (fun _ _ _ h => h) (Or.inl ⟨by rfl, ?hy7⟩) (by assumption) ?rs7
  case hy7 => (intro w9 hSw; (try dsimp only at hSw); go_simp; (try with_reducible rfl))
  (try simp only [Act.put, List.getElem_toArray, List.getElem_cons_zero, List.getElem_cons_succ, List.setIfInBounds_toArray, List.set_cons_zero, List.set_cons_succ])
  refine wpAnyH_ready (rs := [7]) (by kernel_rfl) (by simp) ?_
  refine AllReadyH.cons rfl (fun K hK => ?_) AllReadyH.nil
  have hth : W.drew.there z 0 2 := bx.there rfl
  have z0 := stW_cell (l := [.slice a n c, .slice a2 n c2]) hth (j := 0) rfl
  have z1 := stW_cell (l := [.slice a n c, .slice a2 n c2]) hth (j := 1) rfl
  rw [if_pos (by rfl)]
  refine wp_store_mid _ _ _ rfl z 0 (List.toArray [.slice a n c, .slice a2 n c2]) rfl rfl hth (by kernel_rfl) (by simp [Value.oneCell']) ?_
  show K _ (stW W.drew z [.slice a n c, .slice a2 n c2])
  refine hK.out _ _ (⟨⟩) (fun hHeld => ?_)
  clear hK K hth
  (try simp only [Act.put, List.getElem_toArray, List.getElem_cons_zero, List.getElem_cons_succ, List.setIfInBounds_toArray, List.set_cons_zero, List.set_cons_succ])
  refine wpAnyH_done (by kernel_rfl) ?_ _
  · clear bx
    go_wp2
    refine bodyPost_ret (v := .agg #[.slice a n c, .slice a2 n c2]) (by simp [results, Try.results25, go_sem, z0, z1]) rfl ⟨rfl, ?_⟩
    subst hz
    exact stW_below hY (Nat.le_refl _)

/-- What Eval tells: nothing beside a fault. -/
def evE (C : List It) (V : List Vt) (x : Pg × Tg) : Vt × Int := if (evT C V x).2 ≠ 0 then (vZ, (evT C V x).2) else evT C V x
set_option maxRecDepth 100000 in
set_option maxHeartbeats 8000000 in
theorem evalV_any {C : List It} {V : List Vt} (hlen : C.length ≤ 500) (hCV : C.length = V.length) (hVf : ∀ v ∈ V, Fits v.2.1) (x : Pg × Tg) (hft : ftT x) (hsz : (evT C V x).1.2.2.size ≤ 500) {Q : Nat → Prop} {w : World} {cs : List Value} {a : Option Addr} {n c : Nat} {a2 : Option Addr} {n2 c2 : Nat} (hC : RowIs eItem (fun _ => True) w (.slice a n c) C) (hV : RowIs eVal (fun _ => True) w (.slice a2 n2 c2) V) (hx : eG.E Q w x cs) :
    Calls Try.prog 14 #[.slice a n c, .slice a2 n2 c2, .agg cs.toArray] w fun en w' => en = .returned (.tuple #[vV (evE C V x).1, .int .i64 (evE C V x).2]) ∧ Below w.heap.size w w' := by
  obtain ⟨l1, l2, l3⟩ := row_lens hC
  obtain ⟨m1, m2, m3⟩ := row_lens hV
  obtain rfl : n2 = n := by omega
  have hEx' := hx
  obtain ⟨ea, en, ec, rfl, -⟩ := hEx'
  simp only [exC] at *
  have hw := bal (bal (Below.refl w.heap.size w) (.cells #[.int .i64 x.1.1, .int .i64 x.1.2.1, .int .i64 x.1.2.2.1, .string x.1.2.2.2.1, .string x.1.2.2.2.2.1, .string x.1.2.2.2.2.2, .slice ea en ec] 41)) zV
  have bx : Bk ((w.alloc (.cells #[.int .i64 x.1.1, .int .i64 x.1.2.1, .int .i64 x.1.2.2.1, .string x.1.2.2.2.1, .string x.1.2.2.2.2.1, .string x.1.2.2.2.2.2, .slice ea en ec] 41)).alloc zV) w.heap.size (.cells #[.int .i64 x.1.1, .int .i64 x.1.2.1, .int .i64 x.1.2.2.1, .string x.1.2.2.2.1, .string x.1.2.2.2.2.1, .string x.1.2.2.2.2.2, .slice ea en ec] 41) := (Bk.new w _).later (bal (Below.refl _ _) _)
  have hz : Bv ((w.alloc (.cells #[.int .i64 x.1.1, .int .i64 x.1.2.1, .int .i64 x.1.2.2.1, .string x.1.2.2.2.1, .string x.1.2.2.2.2.1, .string x.1.2.2.2.2.2, .slice ea en ec] 41)).alloc zV) (w.heap.size + 1) 0 0 ⟨#[]⟩ := by
    have := Bv.new (w.alloc (.cells #[.int .i64 x.1.1, .int .i64 x.1.2.1, .int .i64 x.1.2.2.1, .string x.1.2.2.2.1, .string x.1.2.2.2.2.1, .string x.1.2.2.2.2.2, .slice ea en ec] 41))
    rwa [World.size_alloc] at this
  have hWs : Hid (((w.alloc (.cells #[.int .i64 x.1.1, .int .i64 x.1.2.1, .int .i64 x.1.2.2.1, .string x.1.2.2.2.1, .string x.1.2.2.2.2.1, .string x.1.2.2.2.2.2, .slice ea en ec] 41)).alloc zV).heap.size = w.heap.size + 2) := hid (by simp)
  generalize hW : (w.alloc (.cells #[.int .i64 x.1.1, .int .i64 x.1.2.1, .int .i64 x.1.2.2.1, .string x.1.2.2.2.1, .string x.1.2.2.2.2.1, .string x.1.2.2.2.2.2, .slice ea en ec] 41)).alloc zV = W at hw bx hz hWs
  have HPr : Hid _ := hid (pairedV_any (a := a) (n := n2) (c := c) (a2 := a2) (c2 := c2) l2 m2 l3 m3)
  have HEv : Hid (∀ w', Below W.heap.size W w' → _) := hid fun w' hb => ev_any hlen hCV hVf x hft Q w' [.int .i64 x.1.1, .int .i64 x.1.2.1, .int .i64 x.1.2.2.1, .string x.1.2.2.2.1, .string x.1.2.2.2.2.1, .string x.1.2.2.2.2.2, .slice ea en ec] a n2 c a2 n2 c2 (hC.keep (by decide) fun b _ hl => (Below.on hw hb).block b hl) (hV.keep (by decide) fun b _ hl => (Below.on hw hb).block b hl) (eG.keep (fun b _ hl => (Below.on hw hb).block b hl) hx)
  have HCl : Hid _ := hid (clone_any (evT C V x).1.2.2 hsz)
  obtain ⟨G, hG⟩ : ∃ G, evE C V x = G := ⟨_, rfl⟩
  have HG1 : Hid ((evT C V x).2 ≠ 0 → G = (vZ, (evT C V x).2)) := hid fun h => by rw [← hG, evE, if_pos h]
  have HG0 : Hid ((evT C V x).2 = 0 → G = evT C V x) := hid fun h => by rw [← hG, evE, if_neg (by simpa using h)]
  rw [hG]
  have d0 := bx.cell 0
  have d1 := bx.cell 1
  have d2 := bx.cell 2
  have d3 := bx.cell 3
  have d4 := bx.cell 4
  have d5 := bx.cell 5
  have d6 := bx.cell 6
  simp only [List.getElem?_toArray, List.getElem?_cons_zero, List.getElem?_cons_succ] at d0 d1 d2 d3 d4 d5 d6
  have hY : Below W.heap.size W W.drew := (Below.refl _ W).drew
  clear hx hC hV hft hVf hCV hlen hG hsz bx
  generalize evT C V x = R at *
  go_enter Try.func14, Try.ntmps14
  go_upto_region 1 with fail
  (try rw [hW])
  clear hW
  refine wp_region_held_drew (S := fun w' => w'.cell? ⟨w.heap.size, 0, none⟩ = some (.int .i64 x.1.1) ∧ w'.cell? ⟨w.heap.size, 1, none⟩ = some (.int .i64 x.1.2.1) ∧ w'.cell? ⟨w.heap.size, 2, none⟩ = some (.int .i64 x.1.2.2.1) ∧ w'.cell? ⟨w.heap.size, 3, none⟩ = some (.string x.1.2.2.2.1) ∧ w'.cell? ⟨w.heap.size, 4, none⟩ = some (.string x.1.2.2.2.2.1) ∧ w'.cell? ⟨w.heap.size, 5, none⟩ = some (.string x.1.2.2.2.2.2) ∧ w'.cell? ⟨w.heap.size, 6, none⟩ = some (.slice ea en ec)) (by kernel_rfl) (⟨cell_later hY d0, cell_later hY d1, cell_later hY d2, cell_later hY d3, cell_later hY d4, cell_later hY d5, cell_later hY d6⟩) (fun hHeld => ?_)
  generalize W.drew = y at *
  refine wpAnyH_take (i := 0) (v := ?tv17) rfl (by kernel_rfl) (by kernel_rfl) (by kernel_rfl) (fun _ _ _ h => h) (Or.inl ⟨by rfl, ?hy17⟩) (by assumption) ?rs17
  case hy17 => (intro w9 hSw; (try dsimp only at hSw); go_simp; (try with_reducible rfl))
  (try simp only [Act.put, List.getElem_toArray, List.getElem_cons_zero, List.getElem_cons_succ, List.setIfInBounds_toArray, List.set_cons_zero, List.set_cons_succ])
  refine wpAnyH_take (i := 1) (v := ?tv18) rfl (by kernel_rfl) (by kernel_rfl) (by kernel_rfl) (fun _ _ _ h => h) (Or.inl ⟨by rfl, ?hy18⟩) (by assumption) ?rs18
  case hy18 => (intro w9 hSw; (try dsimp only at hSw); go_simp; (try with_reducible rfl))
  (try simp only [Act.put, List.getElem_toArray, List.getElem_cons_zero, List.getElem_cons_succ, List.setIfInBounds_toArray, List.set_cons_zero, List.set_cons_succ])
  refine wpAnyH_take (i := 3) (v := ?tv19) rfl (by kernel_rfl) (by kernel_rfl) (by kernel_rfl) (fun _ _ _ h => h) (Or.inl ⟨by rfl, ?hy19⟩) (by assumption) ?rs19
  case hy19 => (intro w9 hSw; (try dsimp only at hSw); go_simp; (try with_reducible rfl))
  (try simp only [Act.put, List.getElem_toArray, List.getElem_cons_zero, List.getElem_cons_succ, List.setIfInBounds_toArray, List.set_cons_zero, List.set_cons_succ])
  refine wpAnyH_ready (rs := [2, 8]) (by kernel_rfl) (by simp) ?_
  refine AllReadyH.cons rfl (fun K hK => ?_) (AllReadyH.cons rfl (fun K hK => ?_) AllReadyH.nil)
  · go_simp
    go_wp2_with (first | (go_at_call 25; (refine Calls.mono (HPr.out _) ?_); rintro e y ⟨rfl, hby⟩; replace hY := Below.on hY hby))
    refine hK.out _ _ (⟨cell_later hY d0, cell_later hY d1, cell_later hY d2, cell_later hY d3, cell_later hY d4, cell_later hY d5, cell_later hY d6⟩) (fun hHeld => ?_)
    clear hK K
    (try simp only [Act.put, List.getElem_toArray, List.getElem_cons_zero, List.getElem_cons_succ, List.setIfInBounds_toArray, List.set_cons_zero, List.set_cons_succ])
    refine wpAnyH_ready (rs := [4, 8]) (by kernel_rfl) (by simp) ?_
    refine AllReadyH.cons rfl (fun K hK => ?_) (AllReadyH.cons rfl (fun K hK => ?_) AllReadyH.nil)
    · go_simp
      go_wp2_with (first | (go_at_call 26; (refine Calls.mono (HEv.out _ hY) ?_); rintro e y ⟨rfl, hby⟩; replace hY := Below.on hY hby))
      refine hK.out _ _ (⟨cell_later hY d0, cell_later hY d1, cell_later hY d2, cell_later hY d3, cell_later hY d4, cell_later hY d5, cell_later hY d6⟩) (fun hHeld => ?_)
      clear hK K
      (try simp only [Act.put, List.getElem_toArray, List.getElem_cons_zero, List.getElem_cons_succ, List.setIfInBounds_toArray, List.set_cons_zero, List.set_cons_succ])
      refine wpAnyH_take (i := 5) (v := ?tv11) rfl (by kernel_rfl) (by kernel_rfl) (by kernel_rfl) (fun _ _ _ h => h) (Or.inl ⟨by rfl, ?hy11⟩) (by assumption) ?rs11
      case hy11 => (intro w9 hSw; (try dsimp only at hSw); go_simp; (try with_reducible rfl))
      (try simp only [Act.put, List.getElem_toArray, List.getElem_cons_zero, List.getElem_cons_succ, List.setIfInBounds_toArray, List.set_cons_zero, List.set_cons_succ])
      refine wpAnyH_take (i := 6) (v := ?tv12) rfl (by kernel_rfl) (by kernel_rfl) (by kernel_rfl) (fun _ _ _ h => h) (Or.inl ⟨by rfl, ?hy12⟩) (by assumption) ?rs12
      case hy12 => (intro w9 hSw; (try dsimp only at hSw); go_simp; (try with_reducible rfl))
      (try simp only [Act.put, List.getElem_toArray, List.getElem_cons_zero, List.getElem_cons_succ, List.setIfInBounds_toArray, List.set_cons_zero, List.set_cons_succ])
      refine wpAnyH_take (i := 7) (v := ?tv13) rfl (by kernel_rfl) (by kernel_rfl) (by kernel_rfl) (fun _ _ _ h => h) (Or.inl ⟨by rfl, ?hy13⟩) (by assumption) ?rs13
      case hy13 => (intro w9 hSw; (try dsimp only at hSw); go_simp; (try with_reducible rfl))
      (try simp only [Act.put, List.getElem_toArray, List.getElem_cons_zero, List.getElem_cons_succ, List.setIfInBounds_toArray, List.set_cons_zero, List.set_cons_succ])
      refine wpAnyH_ready (rs := [8]) (by kernel_rfl) (by simp) ?_
      refine AllReadyH.cons rfl (fun K hK => ?_) AllReadyH.nil
      go_simp
      have b8 := Bk.new y zV
      obtain ⟨q8, hq8⟩ : ∃ q8, y.heap.size = q8 := ⟨_, rfl⟩
      have hq8w : w.heap.size + 2 ≤ q8 := by rw [← hq8, ← hWs.out]; exact hY.size
      replace hY := bal hY zV
      refine hK.out _ _ (⟨cell_later hY d0, cell_later hY d1, cell_later hY d2, cell_later hY d3, cell_later hY d4, cell_later hY d5, cell_later hY d6⟩) (fun hHeld => ?_)
      clear hK K
      (try simp only [Act.put, List.getElem_toArray, List.getElem_cons_zero, List.getElem_cons_succ, List.setIfInBounds_toArray, List.set_cons_zero, List.set_cons_succ])
      rw [hq8] at b8
      (try rw [hq8])
      clear hq8
      generalize y.alloc zV = y at *
      refine wpAnyH_ready (rs := [9]) (by kernel_rfl) (by simp) ?_
      refine AllReadyH.cons rfl (fun K hK => ?_) AllReadyH.nil
      have hth : y.there q8 0 3 := b8.there rfl
      rw [if_pos (by rfl)]
      refine wp_store_mid _ _ _ rfl q8 0 (List.toArray [.int .i64 R.1.1, .int .i64 R.1.2.1, .string R.1.2.2]) rfl rfl hth (by kernel_rfl) (by simp [Value.oneCell']) ?_
      show K _ (stW y q8 [.int .i64 R.1.1, .int .i64 R.1.2.1, .string R.1.2.2])
      refine hK.out _ _ (⟨stW_far (by omega) (cell_later hY d0), stW_far (by omega) (cell_later hY d1), stW_far (by omega) (cell_later hY d2), stW_far (by omega) (cell_later hY d3), stW_far (by omega) (cell_later hY d4), stW_far (by omega) (cell_later hY d5), stW_far (by omega) (cell_later hY d6)⟩) (fun hHeld => ?_)
      clear hK K hth
      (try simp only [Act.put, List.getElem_toArray, List.getElem_cons_zero, List.getElem_cons_succ, List.setIfInBounds_toArray, List.set_cons_zero, List.set_cons_succ])
      refine wpAnyH_ready (rs := [10]) (by kernel_rfl) (by simp) ?_
      refine AllReadyH.cons rfl (fun K hK => ?_) AllReadyH.nil
      go_simp
      refine hK.out _ _ (⟨stW_far (by omega) (cell_later hY d0), stW_far (by omega) (cell_later hY d1), stW_far (by omega) (cell_later hY d2), stW_far (by omega) (cell_later hY d3), stW_far (by omega) (cell_later hY d4), stW_far (by omega) (cell_later hY d5), stW_far (by omega) (cell_later hY d6)⟩) (fun hHeld => ?_)
      clear hK K
      (try simp only [Act.put, List.getElem_toArray, List.getElem_cons_zero, List.getElem_cons_succ, List.setIfInBounds_toArray, List.set_cons_zero, List.set_cons_succ])
      refine wpAnyH_done (by kernel_rfl) ?_ _
      clear hHeld
      have bq := b8.st3 (.int .i64 R.1.1) (.int .i64 R.1.2.1) (.string R.1.2.2)
      have hzY := (hz.later hY).far (q := q8) (by omega) [.int .i64 R.1.1, .int .i64 R.1.2.1, .string R.1.2.2]
      have hBY : Below w.heap.size w (stW y q8 [.int .i64 R.1.1, .int .i64 R.1.2.1, .string R.1.2.2]) := stW_below (Below.on hw hY) (by omega)
      generalize stW y q8 [.int .i64 R.1.1, .int .i64 R.1.2.1, .string R.1.2.2] = Y at *
      clear b8 hz hY hw HPr HEv d0 d1 d2 d3 d4 d5 d6
      obtain ⟨⟨R0, R1, R2⟩, E⟩ := R
      dsimp only at *
      by_cases h0 : E = 0
      · have hG := HG0.out h0
        subst h0
        have y2 := bq.cell 2
        simp only [List.getElem?_toArray, List.getElem?_cons_zero, List.getElem?_cons_succ] at y2
        clear HG0 HG1
        go_wp2_with fail
        refine Calls.mono (HCl.out _) ?_
        rintro e w5 ⟨rfl, hb5⟩
        replace hBY := Below.on hBY hb5
        replace bq := bq.later hb5
        replace hzY := hzY.later hb5
        have y2 := bq.cell 2
        simp only [List.getElem?_toArray, List.getElem?_cons_zero, List.getElem?_cons_succ] at y2
        have g2 := bq.free 2
        have hl2 := bq.lt
        have bq2 := bq.set2 (.string R2)
        have hz2 := hzY.farS (q := q8) (j := 2) (by omega) (.string R2)
        have hB2 : Below w.heap.size w (w5.setCell ⟨q8, 2, none⟩ (.string R2)) := hBY.setCell (show w.heap.size ≤ q8 by omega) _
        clear HCl hb5 hBY bq hzY
        go_upto_region 5 with fail
        generalize w5.setCell ⟨q8, 2, none⟩ (.string R2) = Y2 at *
        have x0 := bq2.cell 0
        have x1 := bq2.cell 1
        have x2 := bq2.cell 2
        simp only [List.getElem?_toArray, List.getElem?_cons_zero, List.getElem?_cons_succ] at x0 x1 x2
        obtain ⟨c0, c1, c2⟩ := hz2.cells
        obtain ⟨f0, f1, f2⟩ := hz2.free
        have hl := hz2.lt
        clear hz2 bq2 y2 g2 hl2
        go_wp2
        exact bodyPost_ret (v := .tuple #[vV (R0, R1, R2), .int .i64 0]) (by simp [results, Try.results14, go_sem, c0, c1, c2]) rfl ⟨by rw [hG], below3 hB2 (by omega) _ _ _⟩
      · have hG := HG1.out h0
        have ge : decide (E = 0) = false := by simpa using h0
        have gn : (E != 0) = true := by simpa using h0
        obtain ⟨c0, c1, c2⟩ := hzY.cells
        obtain ⟨f0, f1, f2⟩ := hzY.free
        have hl := hzY.lt
        clear HG0 HG1 HCl bq hzY
        go_wp2
        exact bodyPost_ret (v := .tuple #[vV vZ, .int .i64 E]) (by simp [results, Try.results14, go_sem, c0, c1, c2]) rfl ⟨by rw [hG], below3 hBY (by omega) _ _ _⟩
    · go_simp
      have b8 := Bk.new y zV
      obtain ⟨q8, hq8⟩ : ∃ q8, y.heap.size = q8 := ⟨_, rfl⟩
      have hq8w : w.heap.size + 2 ≤ q8 := by rw [← hq8, ← hWs.out]; exact hY.size
      replace hY := bal hY zV
      refine hK.out _ _ (⟨cell_later hY d0, cell_later hY d1, cell_later hY d2, cell_later hY d3, cell_later hY d4, cell_later hY d5, cell_later hY d6⟩) (fun hHeld => ?_)
      clear hK K
      (try simp only [Act.put, List.getElem_toArray, List.getElem_cons_zero, List.getElem_cons_succ, List.setIfInBounds_toArray, List.set_cons_zero, List.set_cons_succ])
      rw [hq8] at b8
      (try rw [hq8])
      clear hq8
      generalize y.alloc zV = y at *
      refine wpAnyH_ready (rs := [4]) (by kernel_rfl) (by simp) ?_
      refine AllReadyH.cons rfl (fun K hK => ?_) AllReadyH.nil
      go_simp
      go_wp2_with (first | (go_at_call 26; (refine Calls.mono (HEv.out _ hY) ?_); rintro e y ⟨rfl, hby⟩; replace b8 := b8.later hby; replace hY := Below.on hY hby))
      refine hK.out _ _ (⟨cell_later hY d0, cell_later hY d1, cell_later hY d2, cell_later hY d3, cell_later hY d4, cell_later hY d5, cell_later hY d6⟩) (fun hHeld => ?_)
      clear hK K
      (try simp only [Act.put, List.getElem_toArray, List.getElem_cons_zero, List.getElem_cons_succ, List.setIfInBounds_toArray, List.set_cons_zero, List.set_cons_succ])
      refine wpAnyH_take (i := 5) (v := ?tv14) rfl (by kernel_rfl) (by kernel_rfl) (by kernel_rfl) (fun _ _ _ h => h) (Or.inl ⟨by rfl, ?hy14⟩) (by assumption) ?rs14
      case hy14 => (intro w9 hSw; (try dsimp only at hSw); go_simp; (try with_reducible rfl))
      (try simp only [Act.put, List.getElem_toArray, List.getElem_cons_zero, List.getElem_cons_succ, List.setIfInBounds_toArray, List.set_cons_zero, List.set_cons_succ])
      refine wpAnyH_take (i := 6) (v := ?tv15) rfl (by kernel_rfl) (by kernel_rfl) (by kernel_rfl) (fun _ _ _ h => h) (Or.inl ⟨by rfl, ?hy15⟩) (by assumption) ?rs15
      case hy15 => (intro w9 hSw; (try dsimp only at hSw); go_simp; (try with_reducible rfl))
      (try simp only [Act.put, List.getElem_toArray, List.getElem_cons_zero, List.getElem_cons_succ, List.setIfInBounds_toArray, List.set_cons_zero, List.set_cons_succ])
      refine wpAnyH_take (i := 7) (v := ?tv16) rfl (by kernel_rfl) (by kernel_rfl) (by kernel_rfl) (fun _ _ _ h => h) (Or.inl ⟨by rfl, ?hy16⟩) (by assumption) ?rs16
      case hy16 => (intro w9 hSw; (try dsimp only at hSw); go_simp; (try with_reducible rfl))
      (try simp only [Act.put, List.getElem_toArray, List.getElem_cons_zero, List.getElem_cons_succ, List.setIfInBounds_toArray, List.set_cons_zero, List.set_cons_succ])
      refine wpAnyH_ready (rs := [9]) (by kernel_rfl) (by simp) ?_
      refine AllReadyH.cons rfl (fun K hK => ?_) AllReadyH.nil
      have hth : y.there q8 0 3 := b8.there rfl
      rw [if_pos (by rfl)]
      refine wp_store_mid _ _ _ rfl q8 0 (List.toArray [.int .i64 R.1.1, .int .i64 R.1.2.1, .string R.1.2.2]) rfl rfl hth (by kernel_rfl) (by simp [Value.oneCell']) ?_
      show K _ (stW y q8 [.int .i64 R.1.1, .int .i64 R.1.2.1, .string R.1.2.2])
      refine hK.out _ _ (⟨stW_far (by omega) (cell_later hY d0), stW_far (by omega) (cell_later hY d1), stW_far (by omega) (cell_later hY d2), stW_far (by omega) (cell_later hY d3), stW_far (by omega) (cell_later hY d4), stW_far (by omega) (cell_later hY d5), stW_far (by omega) (cell_later hY d6)⟩) (fun hHeld => ?_)
      clear hK K hth
      (try simp only [Act.put, List.getElem_toArray, List.getElem_cons_zero, List.getElem_cons_succ, List.setIfInBounds_toArray, List.set_cons_zero, List.set_cons_succ])
      refine wpAnyH_ready (rs := [10]) (by kernel_rfl) (by simp) ?_
      refine AllReadyH.cons rfl (fun K hK => ?_) AllReadyH.nil
      go_simp
      refine hK.out _ _ (⟨stW_far (by omega) (cell_later hY d0), stW_far (by omega) (cell_later hY d1), stW_far (by omega) (cell_later hY d2), stW_far (by omega) (cell_later hY d3), stW_far (by omega) (cell_later hY d4), stW_far (by omega) (cell_later hY d5), stW_far (by omega) (cell_later hY d6)⟩) (fun hHeld => ?_)
      clear hK K
      (try simp only [Act.put, List.getElem_toArray, List.getElem_cons_zero, List.getElem_cons_succ, List.setIfInBounds_toArray, List.set_cons_zero, List.set_cons_succ])
      refine wpAnyH_done (by kernel_rfl) ?_ _
      clear hHeld
      have bq := b8.st3 (.int .i64 R.1.1) (.int .i64 R.1.2.1) (.string R.1.2.2)
      have hzY := (hz.later hY).far (q := q8) (by omega) [.int .i64 R.1.1, .int .i64 R.1.2.1, .string R.1.2.2]
      have hBY : Below w.heap.size w (stW y q8 [.int .i64 R.1.1, .int .i64 R.1.2.1, .string R.1.2.2]) := stW_below (Below.on hw hY) (by omega)
      generalize stW y q8 [.int .i64 R.1.1, .int .i64 R.1.2.1, .string R.1.2.2] = Y at *
      clear b8 hz hY hw HPr HEv d0 d1 d2 d3 d4 d5 d6
      obtain ⟨⟨R0, R1, R2⟩, E⟩ := R
      dsimp only at *
      by_cases h0 : E = 0
      · have hG := HG0.out h0
        subst h0
        have y2 := bq.cell 2
        simp only [List.getElem?_toArray, List.getElem?_cons_zero, List.getElem?_cons_succ] at y2
        clear HG0 HG1
        go_wp2_with fail
        refine Calls.mono (HCl.out _) ?_
        rintro e w5 ⟨rfl, hb5⟩
        replace hBY := Below.on hBY hb5
        replace bq := bq.later hb5
        replace hzY := hzY.later hb5
        have y2 := bq.cell 2
        simp only [List.getElem?_toArray, List.getElem?_cons_zero, List.getElem?_cons_succ] at y2
        have g2 := bq.free 2
        have hl2 := bq.lt
        have bq2 := bq.set2 (.string R2)
        have hz2 := hzY.farS (q := q8) (j := 2) (by omega) (.string R2)
        have hB2 : Below w.heap.size w (w5.setCell ⟨q8, 2, none⟩ (.string R2)) := hBY.setCell (show w.heap.size ≤ q8 by omega) _
        clear HCl hb5 hBY bq hzY
        go_upto_region 5 with fail
        generalize w5.setCell ⟨q8, 2, none⟩ (.string R2) = Y2 at *
        have x0 := bq2.cell 0
        have x1 := bq2.cell 1
        have x2 := bq2.cell 2
        simp only [List.getElem?_toArray, List.getElem?_cons_zero, List.getElem?_cons_succ] at x0 x1 x2
        obtain ⟨c0, c1, c2⟩ := hz2.cells
        obtain ⟨f0, f1, f2⟩ := hz2.free
        have hl := hz2.lt
        clear hz2 bq2 y2 g2 hl2
        go_wp2
        exact bodyPost_ret (v := .tuple #[vV (R0, R1, R2), .int .i64 0]) (by simp [results, Try.results14, go_sem, c0, c1, c2]) rfl ⟨by rw [hG], below3 hB2 (by omega) _ _ _⟩
      · have hG := HG1.out h0
        have ge : decide (E = 0) = false := by simpa using h0
        have gn : (E != 0) = true := by simpa using h0
        obtain ⟨c0, c1, c2⟩ := hzY.cells
        obtain ⟨f0, f1, f2⟩ := hzY.free
        have hl := hzY.lt
        clear HG0 HG1 HCl bq hzY
        go_wp2
        exact bodyPost_ret (v := .tuple #[vV vZ, .int .i64 E]) (by simp [results, Try.results14, go_sem, c0, c1, c2]) rfl ⟨by rw [hG], below3 hBY (by omega) _ _ _⟩
  · go_simp
    have b8 := Bk.new y zV
    obtain ⟨q8, hq8⟩ : ∃ q8, y.heap.size = q8 := ⟨_, rfl⟩
    have hq8w : w.heap.size + 2 ≤ q8 := by rw [← hq8, ← hWs.out]; exact hY.size
    replace hY := bal hY zV
    refine hK.out _ _ (⟨cell_later hY d0, cell_later hY d1, cell_later hY d2, cell_later hY d3, cell_later hY d4, cell_later hY d5, cell_later hY d6⟩) (fun hHeld => ?_)
    clear hK K
    (try simp only [Act.put, List.getElem_toArray, List.getElem_cons_zero, List.getElem_cons_succ, List.setIfInBounds_toArray, List.set_cons_zero, List.set_cons_succ])
    rw [hq8] at b8
    (try rw [hq8])
    clear hq8
    generalize y.alloc zV = y at *
    refine wpAnyH_ready (rs := [2]) (by kernel_rfl) (by simp) ?_
    refine AllReadyH.cons rfl (fun K hK => ?_) AllReadyH.nil
    go_simp
    go_wp2_with (first | (go_at_call 25; (refine Calls.mono (HPr.out _) ?_); rintro e y ⟨rfl, hby⟩; replace b8 := b8.later hby; replace hY := Below.on hY hby))
    refine hK.out _ _ (⟨cell_later hY d0, cell_later hY d1, cell_later hY d2, cell_later hY d3, cell_later hY d4, cell_later hY d5, cell_later hY d6⟩) (fun hHeld => ?_)
    clear hK K
    (try simp only [Act.put, List.getElem_toArray, List.getElem_cons_zero, List.getElem_cons_succ, List.setIfInBounds_toArray, List.set_cons_zero, List.set_cons_succ])
    refine wpAnyH_ready (rs := [4]) (by kernel_rfl) (by simp) ?_
    refine AllReadyH.cons rfl (fun K hK => ?_) AllReadyH.nil
    go_simp
    go_wp2_with (first | (go_at_call 26; (refine Calls.mono (HEv.out _ hY) ?_); rintro e y ⟨rfl, hby⟩; replace b8 := b8.later hby; replace hY := Below.on hY hby))
    refine hK.out _ _ (⟨cell_later hY d0, cell_later hY d1, cell_later hY d2, cell_later hY d3, cell_later hY d4, cell_later hY d5, cell_later hY d6⟩) (fun hHeld => ?_)
    clear hK K
    (try simp only [Act.put, List.getElem_toArray, List.getElem_cons_zero, List.getElem_cons_succ, List.setIfInBounds_toArray, List.set_cons_zero, List.set_cons_succ])
    refine wpAnyH_take (i := 5) (v := ?tv8) rfl (by kernel_rfl) (by kernel_rfl) (by kernel_rfl) (fun _ _ _ h => h) (Or.inl ⟨by rfl, ?hy8⟩) (by assumption) ?rs8
    case hy8 => (intro w9 hSw; (try dsimp only at hSw); go_simp; (try with_reducible rfl))
    (try simp only [Act.put, List.getElem_toArray, List.getElem_cons_zero, List.getElem_cons_succ, List.setIfInBounds_toArray, List.set_cons_zero, List.set_cons_succ])
    refine wpAnyH_take (i := 6) (v := ?tv9) rfl (by kernel_rfl) (by kernel_rfl) (by kernel_rfl) (fun _ _ _ h => h) (Or.inl ⟨by rfl, ?hy9⟩) (by assumption) ?rs9
    case hy9 => (intro w9 hSw; (try dsimp only at hSw); go_simp; (try with_reducible rfl))
    (try simp only [Act.put, List.getElem_toArray, List.getElem_cons_zero, List.getElem_cons_succ, List.setIfInBounds_toArray, List.set_cons_zero, List.set_cons_succ])
    refine wpAnyH_take (i := 7) (v := ?tv10) rfl (by kernel_rfl) (by kernel_rfl) (by kernel_rfl) (fun _ _ _ h => h) (Or.inl ⟨by rfl, ?hy10⟩) (by assumption) ?rs10
    case hy10 => (intro w9 hSw; (try dsimp only at hSw); go_simp; (try with_reducible rfl))
    (try simp only [Act.put, List.getElem_toArray, List.getElem_cons_zero, List.getElem_cons_succ, List.setIfInBounds_toArray, List.set_cons_zero, List.set_cons_succ])
    refine wpAnyH_ready (rs := [9]) (by kernel_rfl) (by simp) ?_
    refine AllReadyH.cons rfl (fun K hK => ?_) AllReadyH.nil
    have hth : y.there q8 0 3 := b8.there rfl
    rw [if_pos (by rfl)]
    refine wp_store_mid _ _ _ rfl q8 0 (List.toArray [.int .i64 R.1.1, .int .i64 R.1.2.1, .string R.1.2.2]) rfl rfl hth (by kernel_rfl) (by simp [Value.oneCell']) ?_
    show K _ (stW y q8 [.int .i64 R.1.1, .int .i64 R.1.2.1, .string R.1.2.2])
    refine hK.out _ _ (⟨stW_far (by omega) (cell_later hY d0), stW_far (by omega) (cell_later hY d1), stW_far (by omega) (cell_later hY d2), stW_far (by omega) (cell_later hY d3), stW_far (by omega) (cell_later hY d4), stW_far (by omega) (cell_later hY d5), stW_far (by omega) (cell_later hY d6)⟩) (fun hHeld => ?_)
    clear hK K hth
    (try simp only [Act.put, List.getElem_toArray, List.getElem_cons_zero, List.getElem_cons_succ, List.setIfInBounds_toArray, List.set_cons_zero, List.set_cons_succ])
    refine wpAnyH_ready (rs := [10]) (by kernel_rfl) (by simp) ?_
    refine AllReadyH.cons rfl (fun K hK => ?_) AllReadyH.nil
    go_simp
    refine hK.out _ _ (⟨stW_far (by omega) (cell_later hY d0), stW_far (by omega) (cell_later hY d1), stW_far (by omega) (cell_later hY d2), stW_far (by omega) (cell_later hY d3), stW_far (by omega) (cell_later hY d4), stW_far (by omega) (cell_later hY d5), stW_far (by omega) (cell_later hY d6)⟩) (fun hHeld => ?_)
    clear hK K
    (try simp only [Act.put, List.getElem_toArray, List.getElem_cons_zero, List.getElem_cons_succ, List.setIfInBounds_toArray, List.set_cons_zero, List.set_cons_succ])
    refine wpAnyH_done (by kernel_rfl) ?_ _
    clear hHeld
    have bq := b8.st3 (.int .i64 R.1.1) (.int .i64 R.1.2.1) (.string R.1.2.2)
    have hzY := (hz.later hY).far (q := q8) (by omega) [.int .i64 R.1.1, .int .i64 R.1.2.1, .string R.1.2.2]
    have hBY : Below w.heap.size w (stW y q8 [.int .i64 R.1.1, .int .i64 R.1.2.1, .string R.1.2.2]) := stW_below (Below.on hw hY) (by omega)
    generalize stW y q8 [.int .i64 R.1.1, .int .i64 R.1.2.1, .string R.1.2.2] = Y at *
    clear b8 hz hY hw HPr HEv d0 d1 d2 d3 d4 d5 d6
    obtain ⟨⟨R0, R1, R2⟩, E⟩ := R
    dsimp only at *
    by_cases h0 : E = 0
    · have hG := HG0.out h0
      subst h0
      have y2 := bq.cell 2
      simp only [List.getElem?_toArray, List.getElem?_cons_zero, List.getElem?_cons_succ] at y2
      clear HG0 HG1
      go_wp2_with fail
      refine Calls.mono (HCl.out _) ?_
      rintro e w5 ⟨rfl, hb5⟩
      replace hBY := Below.on hBY hb5
      replace bq := bq.later hb5
      replace hzY := hzY.later hb5
      have y2 := bq.cell 2
      simp only [List.getElem?_toArray, List.getElem?_cons_zero, List.getElem?_cons_succ] at y2
      have g2 := bq.free 2
      have hl2 := bq.lt
      have bq2 := bq.set2 (.string R2)
      have hz2 := hzY.farS (q := q8) (j := 2) (by omega) (.string R2)
      have hB2 : Below w.heap.size w (w5.setCell ⟨q8, 2, none⟩ (.string R2)) := hBY.setCell (show w.heap.size ≤ q8 by omega) _
      clear HCl hb5 hBY bq hzY
      go_upto_region 5 with fail
      generalize w5.setCell ⟨q8, 2, none⟩ (.string R2) = Y2 at *
      have x0 := bq2.cell 0
      have x1 := bq2.cell 1
      have x2 := bq2.cell 2
      simp only [List.getElem?_toArray, List.getElem?_cons_zero, List.getElem?_cons_succ] at x0 x1 x2
      obtain ⟨c0, c1, c2⟩ := hz2.cells
      obtain ⟨f0, f1, f2⟩ := hz2.free
      have hl := hz2.lt
      clear hz2 bq2 y2 g2 hl2
      go_wp2
      exact bodyPost_ret (v := .tuple #[vV (R0, R1, R2), .int .i64 0]) (by simp [results, Try.results14, go_sem, c0, c1, c2]) rfl ⟨by rw [hG], below3 hB2 (by omega) _ _ _⟩
    · have hG := HG1.out h0
      have ge : decide (E = 0) = false := by simpa using h0
      have gn : (E != 0) = true := by simpa using h0
      obtain ⟨c0, c1, c2⟩ := hzY.cells
      obtain ⟨f0, f1, f2⟩ := hzY.free
      have hl := hzY.lt
      clear HG0 HG1 HCl bq hzY
      go_wp2
      exact bodyPost_ret (v := .tuple #[vV vZ, .int .i64 E]) (by simp [results, Try.results14, go_sem, c0, c1, c2]) rfl ⟨by rw [hG], below3 hBY (by omega) _ _ _⟩

end Go.Proofs.Ytbmfehacnigknaa
