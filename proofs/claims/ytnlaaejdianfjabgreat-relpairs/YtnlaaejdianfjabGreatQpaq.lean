import Derived.Test.YtnlaaejdianfjabGreatQpap
import Derived.Test.YtnlaaejdianfjabGreatQpai
namespace Go.Proofs.YtnlaaejdianfjabGreat
open Go.RowKit
set_option linter.unusedVariables false
set_option linter.unusedSimpArgs false

theorem tbl2_row {w : World} {q : Nat} {t u : Tbl} {c x c2 x2 : Sl} {Q1 Q2 Q3 Q4 : Nat → Prop} (h : Bk w q (.cells #[.string t.name, .slice c.1 c.2.1 c.2.2, .slice x.1 x.2.1 x.2.2, .string u.name, .slice c2.1 c2.2.1 c2.2.2, .slice x2.1 x2.2.1 x2.2.2] 32)) (h1 : RowIs eCol Q1 w (slV c) t.cols) (h2 : RowIs eStr Q2 w (slV x) t.index) (h3 : RowIs eCol Q3 w (slV c2) u.cols) (h4 : RowIs eStr Q4 w (slV x2) u.index) : RowIs eTbl (fun _ => True) w (.slice (some ⟨q, 0, none⟩) 2 2) [t, u] :=
  ⟨_, 2, 2, rfl, rfl, Nat.le_refl _, by decide, fun _ => ⟨q, 0, rfl, trivial, fun i hi => by
    match i, hi with
    | 0, _ => exact ⟨[.string t.name, .slice c.1 c.2.1 c.2.2, .slice x.1 x.2.1 x.2.2], ⟨_, _, _, _, _, _, rfl, h1.mono (by decide) fun _ _ _ => trivial, h2.mono (by decide) fun _ _ _ => trivial⟩, rfl, fun j hj => by
        have hj3 : j < 3 := hj
        match j, hj3 with
        | 0, _ => exact h.cell 0
        | 1, _ => exact h.cell 1
        | 2, _ => exact h.cell 2⟩
    | 1, _ => exact ⟨[.string u.name, .slice c2.1 c2.2.1 c2.2.2, .slice x2.1 x2.2.1 x2.2.2], ⟨_, _, _, _, _, _, rfl, h3.mono (by decide) fun _ _ _ => trivial, h4.mono (by decide) fun _ _ _ => trivial⟩, rfl, fun j hj => by
        have hj3 : j < 3 := hj
        match j, hj3 with
        | 0, _ => exact h.cell 3
        | 1, _ => exact h.cell 4
        | 2, _ => exact h.cell 5⟩⟩⟩
set_option maxRecDepth 100000 in
set_option maxHeartbeats 8000000 in
theorem fromJ_any {s : Sv} (hj : s.jn ≠ ⟨#[]⟩) {t u : Tbl} (ht : t.cols.length ≤ 200) (hu : u.cols.length ≤ 200) {c x c2 x2 : Sl} {w : World} {Q1 Q2 Q3 Q4 Q5 Q6 Q7 : Nat → Prop} (hc : RowIs eCol Q1 w (slV c) t.cols) (hx : RowIs eStr Q2 w (slV x) t.index) (hc2 : RowIs eCol Q3 w (slV c2) u.cols) (hx2 : RowIs eStr Q4 w (slV x2) u.index)
    {lr rr : Sl} {L R : List (List Vt)} (hL : RowIs eRow Q5 w (slV lr) L) (hR : RowIs eRow Q6 w (slV rr) R) (h5L : ∀ l ∈ L, 0 < l.length ∧ l.length ≤ 500) (h5R : ∀ r ∈ R, r.length ≤ 500) {p1 p2 : Pg × Tg} (hon : RowIs eG Q7 w (slV s.on) [p1, p2]) {a b : Nat} (ha : a ≤ 1000) (hb : b ≤ 1000) (n1 : naP (scP [t, u]) p1 = ((a : Int), 0)) (n2 : naP (scP [t, u]) p2 = ((b : Int), 0)) :
    Calls Tryz.prog 13 #[stV s, tbV t.name c x, tbV u.name c2 x2, slV lr, slV rr] w (FrP w (scP [t, u]) (prsP L R a b) 0) := by
  have hw := bal (bal (bal (Below.refl w.heap.size w) (svR s)) (tbRO t.name c x)) (tbRO u.name c2 x2)
  have bs : Bs (((w.alloc (svR s)).alloc (tbRO t.name c x)).alloc (tbRO u.name c2 x2)) w.heap.size s := (⟨heap_alloc_new w _⟩ : Bs (w.alloc (svR s)) w.heap.size s).later (bal (bal (Below.refl _ _) _) _)
  have bt := (Bk.new (w.alloc (svR s)) (tbRO t.name c x)).later (bal (Below.refl _ _) (tbRO u.name c2 x2))
  have bu := Bk.new ((w.alloc (svR s)).alloc (tbRO t.name c x)) (tbRO u.name c2 x2)
  rw [World.size_alloc] at bt
  rw [World.size_alloc, World.size_alloc] at bu
  have HL2 : Hid (s.on.2.1 = 2) := hid (row_lens hon).1.symm
  have HL : Hid (∀ w', Below w.heap.size w w' → RowIs eRow (fun _ => True) w' (.slice lr.1 lr.2.1 lr.2.2) L) := hid fun w' hb => (hL.keep (by decide) fun b _ hl => hb.block b hl).mono (by decide) fun _ _ _ => trivial
  have HRr : Hid (∀ w', Below w.heap.size w w' → RowIs eRow (fun _ => True) w' (.slice rr.1 rr.2.1 rr.2.2) R) := hid fun w' hb => (hR.keep (by decide) fun b _ hl => hb.block b hl).mono (by decide) fun _ _ _ => trivial
  have HOn : Hid (∀ w', Below w.heap.size w w' → RowIs eG Q7 w' (.slice s.on.1 s.on.2.1 s.on.2.2) [p1, p2]) := hid fun w' hb => hon.keep (by decide) fun b _ hl => hb.block b hl
  have HCo : Hid (∀ w', Below w.heap.size w w' → RowIs eTbl (fun _ => True) (w'.alloc (.cells #[.string t.name, .slice c.1 c.2.1 c.2.2, .slice x.1 x.2.1 x.2.2, .string u.name, .slice c2.1 c2.2.1 c2.2.2, .slice x2.1 x2.2.1 x2.2.2] 32)) (.slice (some ⟨w'.heap.size, 0, none⟩) 2 2) [t, u]) := hid fun w' hb => by
    have hb2 := bal hb (.cells #[.string t.name, .slice c.1 c.2.1 c.2.2, .slice x.1 x.2.1 x.2.2, .string u.name, .slice c2.1 c2.2.1 c2.2.2, .slice x2.1 x2.2.1 x2.2.2] 32)
    exact tbl2_row (Bk.new w' (.cells #[.string t.name, .slice c.1 c.2.1 c.2.2, .slice x.1 x.2.1 x.2.2, .string u.name, .slice c2.1 c2.2.1 c2.2.2, .slice x2.1 x2.2.1 x2.2.2] 32)) (hc.keep (by decide) fun b _ hl => hb2.block b hl) (hx.keep (by decide) fun b _ hl => hb2.block b hl) (hc2.keep (by decide) fun b _ hl => hb2.block b hl) (hx2.keep (by decide) fun b _ hl => hb2.block b hl)
  have HT : Hid (∀ t' ∈ [t, u], t'.cols.length ≤ 200) := hid (by
    intro t' h'
    simp only [List.mem_cons, List.not_mem_nil, or_false] at h'
    rcases h' with rfl | rfl
    · exact ht
    · exact hu)
  have HCl : Hid ((scP [t, u]).length ≤ 500) := hid (by simp [scP, scT]; omega)
  have HN : Hid (naP (scP [t, u]) p1 = ((a : Int), 0) ∧ naP (scP [t, u]) p2 = ((b : Int), 0)) := hid ⟨n1, n2⟩
  have H5 : Hid ((∀ l ∈ L, 0 < l.length ∧ l.length ≤ 500) ∧ ∀ r ∈ R, r.length ≤ 500) := hid ⟨h5L, h5R⟩
  have ej : s.jn.toList.isEmpty = false := by rw [emptyV_str]; simpa using hj
  clear hc hx hc2 hx2 hL hR hon ht hu n1 n2 h5L h5R hj
  go_enter Tryz.func13, Tryz.ntmps13
  dsimp only [stV]
  go_upto_region 1 with fail
  generalize ((w.alloc (svR s)).alloc (tbRO t.name c x)).alloc (tbRO u.name c2 x2) = W at *
  obtain ⟨q, hq⟩ : ∃ q, w.heap.size = q := ⟨_, rfl⟩
  rw [hq] at bs bt bu
  (try rw [hq])
  obtain ⟨-, -, -, -, -, -, -, c7, c8, -, -, -, -⟩ := bs.cells
  rw [HL2.out] at c8
  obtain ⟨d0, d1, d2⟩ : W.cell? ⟨q + 1, 0, none⟩ = some (.string t.name) ∧ W.cell? ⟨q + 1, 1, none⟩ = some (.slice c.1 c.2.1 c.2.2) ∧ W.cell? ⟨q + 1, 2, none⟩ = some (.slice x.1 x.2.1 x.2.2) := ⟨bt.cell 0, bt.cell 1, bt.cell 2⟩
  obtain ⟨e0, e1, e2⟩ : W.cell? ⟨q + 1 + 1, 0, none⟩ = some (.string u.name) ∧ W.cell? ⟨q + 1 + 1, 1, none⟩ = some (.slice c2.1 c2.2.1 c2.2.2) ∧ W.cell? ⟨q + 1 + 1, 2, none⟩ = some (.slice x2.1 x2.2.1 x2.2.2) := ⟨bu.cell 0, bu.cell 1, bu.cell 2⟩
  have HCW : Hid _ := hid (relCols_any (by simp) HT.out (HCo.out W hw))
  have hwc := bal hw (.cells #[.string t.name, .slice c.1 c.2.1 c.2.2, .slice x.1 x.2.1 x.2.2, .string u.name, .slice c2.1 c2.2.1 c2.2.2, .slice x2.1 x2.2.1 x2.2.2] 32)
  replace c8 := cell_later (bal (Below.refl _ W) (.cells #[.string t.name, .slice c.1 c.2.1 c.2.2, .slice x.1 x.2.1 x.2.2, .string u.name, .slice c2.1 c2.2.1 c2.2.2, .slice x2.1 x2.2.1 x2.2.2] 32)) c8
  clear bs bt bu HCo hq
  go_wp2_with fail
  with_reducible refine Calls.mono HCW.out ?_
  rintro e w1 ⟨v, rfl, ho, hb1⟩
  obtain ⟨ia, iN, ic, rfl⟩ := ho.sl
  have hB1 := Below.on hwc hb1
  replace c8 := cell_later hb1 c8
  have hIt := its_row ho
  have HIt : Hid (∀ w', Below w1.heap.size w1 w' → RowIs eItem (fun _ => True) w' (.slice ia iN ic) (scP [t, u])) := hid fun w' hb => hIt.keep (by decide) fun b _ hl => hb.block b hl
  have HE : Hid _ := hid (eachN_any (l := [p1, p2]) (by simp) (f := naP (scP [t, u])) (w := w1) (N := 26) (r := .slice ia iN ic) (HOn.out w1 hB1) (fun args w' => by rfl) (fun x Q cs w' hb hx => named_any HCl.out (HIt.out w' hb) hx))
  have hz : erL ([p1, p2].map fun x => (naP (scP [t, u]) x).2) = 0 := by simp [HN.out.1, HN.out.2, erL]
  rw [hz, HL2.out] at HE
  have hmf : ∀ (fn : Fn) (first cap : Array Value) (w : World), (Instr.makeFunc fn first cap).run Tryz.prog w = .ok (.func fn first cap) w := fun _ _ _ _ => rfl
  clear HCW ho hb1 c7 d0 d1 d2 e0 e1 e2 hIt hz hwc
  go_wp2_with fail
  with_reducible refine Calls.mono HE.out ?_
  rintro e w4 ⟨xa, xn, xc, rfl, hb4, hok⟩
  have hO := hok trivial
  have hB4 := Below.on hB1 hb4
  have hrow : RowIs eInt (fun _ => True) w4 (.slice xa xn xc) [(a : Int), (b : Int)] := OwnR.rowE (e := eInt) hO (by simp) (fun _ _ _ => trivial) fun i h1 h2 => by
    match i, h1 with
    | 0, _ => show _ = [Value.int .i64 ((a : Nat) : Int)]; simp [HN.out.1]
    | 1, _ => show _ = [Value.int .i64 ((b : Nat) : Int)]; simp [HN.out.2]
  obtain rfl : 2 = xn := (row_lens hrow).1
  obtain ⟨g1, g2, rfl, i1⟩ := int1 hrow (k := 0) (by simp)
  obtain ⟨g1', g2', e9, i2⟩ := int1 hrow (k := 1) (by simp)
  cases e9
  simp only [Nat.add_zero, List.getElem_cons_zero, List.getElem_cons_succ] at i1 i2
  have HIt4 : Hid (∀ w', Below w4.heap.size w4 w' → RowIs eItem (fun _ => True) w' (.slice ia iN ic) (scP [t, u])) := hid fun w' hb => HIt.out w' (Below.on hb4 hb)
  have HJo : Hid (∀ w', _) := hid fun w' => joinedF_any (la := lr.1) (ln := lr.2.1) (lc := lr.2.2) (ra := rr.1) (rn := rr.2.1) (rc := rr.2.2) (a := (a : Int)) (b := (b : Int)) w'
  clear HE hok hO hrow hb4 c8 HIt hB1 HOn
  go_upto_region 9 with fail
  have hY : Below w4.heap.size w4 w4.drew := (Below.refl _ w4).drew
  refine wp_region_held_drew (S := fun w' => w'.cell? ⟨g1, g2, none⟩ = some (.int .i64 (a : Int)) ∧ w'.cell? ⟨g1, g2 + 1, none⟩ = some (.int .i64 (b : Int))) (by kernel_rfl) (⟨cell_later hY i1, cell_later hY i2⟩) (fun hHeld => ?_)
  generalize w4.drew = y at *
  refine wpAnyH_take (i := 0) (v := ?tv12001) rfl (by kernel_rfl) (by kernel_rfl) (by kernel_rfl) (fun _ _ _ h => h) (Or.inl ⟨by rfl, ?hy12001⟩) (by assumption) ?rs12001
  case hy12001 => (intro w9 hSw; (try dsimp only at hSw); go_simp; (try with_reducible rfl))
  (try simp only [Act.put, List.getElem_toArray, List.getElem_cons_zero, List.getElem_cons_succ, List.setIfInBounds_toArray, List.set_cons_zero, List.set_cons_succ])
  refine wpAnyH_take (i := 1) (v := ?tv12002) rfl (by kernel_rfl) (by kernel_rfl) (by kernel_rfl) (fun _ _ _ h => h) (Or.inl ⟨by rfl, ?hy12002⟩) (by assumption) ?rs12002
  case hy12002 => (intro w9 hSw; (try dsimp only at hSw); go_simp; (try with_reducible rfl))
  (try simp only [Act.put, List.getElem_toArray, List.getElem_cons_zero, List.getElem_cons_succ, List.setIfInBounds_toArray, List.set_cons_zero, List.set_cons_succ])
  refine wpAnyH_take (i := 2) (v := ?tv12003) rfl (by kernel_rfl) (by kernel_rfl) (by kernel_rfl) (fun _ _ _ h => h) (Or.inl ⟨by rfl, ?hy12003⟩) (by assumption) ?rs12003
  case hy12003 => (intro w9 hSw; (try dsimp only at hSw); go_simp; (try with_reducible rfl))
  (try simp only [Act.put, List.getElem_toArray, List.getElem_cons_zero, List.getElem_cons_succ, List.setIfInBounds_toArray, List.set_cons_zero, List.set_cons_succ])
  refine wpAnyH_take (i := 3) (v := ?tv12004) rfl (by kernel_rfl) (by kernel_rfl) (by kernel_rfl) (fun _ _ _ h => h) (Or.inl ⟨by rfl, ?hy12004⟩) (by assumption) ?rs12004
  case hy12004 => (intro w9 hSw; (try dsimp only at hSw); go_simp; (try with_reducible rfl))
  (try simp only [Act.put, List.getElem_toArray, List.getElem_cons_zero, List.getElem_cons_succ, List.setIfInBounds_toArray, List.set_cons_zero, List.set_cons_succ])
  refine wpAnyH_take (i := 4) (v := ?tv12005) rfl (by kernel_rfl) (by kernel_rfl) (by kernel_rfl) (fun _ _ _ h => h) (Or.inl ⟨by rfl, ?hy12005⟩) (by assumption) ?rs12005
  case hy12005 => (intro w9 hSw; (try dsimp only at hSw); go_simp; (try with_reducible rfl))
  (try simp only [Act.put, List.getElem_toArray, List.getElem_cons_zero, List.getElem_cons_succ, List.setIfInBounds_toArray, List.set_cons_zero, List.set_cons_succ])
  refine wpAnyH_take (i := 5) (v := ?tv12006) rfl (by kernel_rfl) (by kernel_rfl) (by kernel_rfl) (fun _ _ _ h => h) (Or.inl ⟨by rfl, ?hy12006⟩) (by assumption) ?rs12006
  case hy12006 => (intro w9 hSw; (try dsimp only at hSw); go_simp; (try with_reducible rfl))
  (try simp only [Act.put, List.getElem_toArray, List.getElem_cons_zero, List.getElem_cons_succ, List.setIfInBounds_toArray, List.set_cons_zero, List.set_cons_succ])
  refine wpAnyH_take (i := 6) (v := ?tv12007) rfl (by kernel_rfl) (by kernel_rfl) (by kernel_rfl) (fun _ _ _ h => h) (Or.inl ⟨by rfl, ?hy12007⟩) (by assumption) ?rs12007
  case hy12007 => (intro w9 hSw; (try dsimp only at hSw); go_simp; (try with_reducible rfl))
  (try simp only [Act.put, List.getElem_toArray, List.getElem_cons_zero, List.getElem_cons_succ, List.setIfInBounds_toArray, List.set_cons_zero, List.set_cons_succ])
  refine wpAnyH_take (i := 7) (v := ?tv12008) rfl (by kernel_rfl) (by kernel_rfl) (by kernel_rfl) (fun _ _ _ h => h) (Or.inl ⟨by rfl, ?hy12008⟩) (by assumption) ?rs12008
  case hy12008 => (intro w9 hSw; (try dsimp only at hSw); go_simp; (try with_reducible rfl))
  (try simp only [Act.put, List.getElem_toArray, List.getElem_cons_zero, List.getElem_cons_succ, List.setIfInBounds_toArray, List.set_cons_zero, List.set_cons_succ])
  refine wpAnyH_take (i := 8) (v := ?tv12009) rfl (by kernel_rfl) (by kernel_rfl) (by kernel_rfl) (fun _ _ _ h => h) (Or.inl ⟨by rfl, ?hy12009⟩) (by assumption) ?rs12009
  case hy12009 => (intro w9 hSw; (try dsimp only at hSw); go_simp; (try with_reducible rfl))
  (try simp only [Act.put, List.getElem_toArray, List.getElem_cons_zero, List.getElem_cons_succ, List.setIfInBounds_toArray, List.set_cons_zero, List.set_cons_succ])
  refine wpAnyH_ready (rs := [9]) (by kernel_rfl) (by simp) ?_
  refine AllReadyH.cons rfl (fun K hK => ?_) AllReadyH.nil
  go_simp
  go_wp2_with (first | (go_at_call 27; (refine Calls.mono (HJo.out _) ?_); rintro e y ⟨b1, b2, b3, b4, rfl, k1, k2, k3, k4, hby⟩; replace hY := Below.on hY hby))
  refine hK.out _ _ (⟨cell_later hY i1, cell_later hY i2⟩) (fun hHeld => ?_)
  clear hK K hby
  (try simp only [Act.put, List.getElem_toArray, List.getElem_cons_zero, List.getElem_cons_succ, List.setIfInBounds_toArray, List.set_cons_zero, List.set_cons_succ])
  refine wpAnyH_ready (rs := [10]) (by kernel_rfl) (by simp) ?_
  refine AllReadyH.cons rfl (fun K hK => ?_) AllReadyH.nil
  go_simp
  refine hK.out _ _ (⟨cell_later hY i1, cell_later hY i2⟩) (fun hHeld => ?_)
  clear hK K
  (try simp only [Act.put, List.getElem_toArray, List.getElem_cons_zero, List.getElem_cons_succ, List.setIfInBounds_toArray, List.set_cons_zero, List.set_cons_succ])
  refine wpAnyH_ready (rs := [11]) (by kernel_rfl) (by simp) ?_
  refine AllReadyH.cons rfl (fun K hK => ?_) AllReadyH.nil
  go_simp
  refine hK.out _ _ (⟨cell_later hY i1, cell_later hY i2⟩) (fun hHeld => ?_)
  clear hK K
  (try simp only [Act.put, List.getElem_toArray, List.getElem_cons_zero, List.getElem_cons_succ, List.setIfInBounds_toArray, List.set_cons_zero, List.set_cons_succ])
  refine wpAnyH_ready (rs := [12]) (by kernel_rfl) (by simp) ?_
  refine AllReadyH.cons rfl (fun K hK => ?_) AllReadyH.nil
  go_simp
  refine hK.out _ _ (⟨cell_later hY i1, cell_later hY i2⟩) (fun hHeld => ?_)
  clear hK K
  (try simp only [Act.put, List.getElem_toArray, List.getElem_cons_zero, List.getElem_cons_succ, List.setIfInBounds_toArray, List.set_cons_zero, List.set_cons_succ])
  refine wpAnyH_done (by kernel_rfl) ?_ _
  clear hHeld
  have hBy := Below.on hB4 hY
  have HQ : Hid (FrP w (scP [t, u]) (prsP L R a b) 0 (.returned (.tuple #[.slice ia iN ic, .func (.func 48) #[] #[.pointer (some ⟨b1, 0, none⟩), .pointer (some ⟨b2, 0, none⟩), .pointer (some ⟨b3, 0, none⟩), .pointer (some ⟨b4, 0, none⟩)], .int .i64 0])) y) := hid ⟨ia, iN, ic, _, _, rfl, hBy, fun _ => ⟨_, rfl, fun args w3 => by rfl, HIt4.out y hY, joined1_any ha hb k1 k2 k3 k4 (HL.out y hBy) (HRr.out y hBy) H5.out.1 H5.out.2⟩⟩
  clear HL HRr HIt4 H5 k1 k2 k3 k4 hY
  go_wp2
  exact bodyPost_ret (v := .tuple #[.slice ia iN ic, .func (.func 48) #[] #[.pointer (some ⟨b1, 0, none⟩), .pointer (some ⟨b2, 0, none⟩), .pointer (some ⟨b3, 0, none⟩), .pointer (some ⟨b4, 0, none⟩)], .int .i64 0]) (by simp [results, Tryz.results13]) rfl HQ.out

end Go.Proofs.YtnlaaejdianfjabGreat
namespace Go.Proofs.YtnlaaejdianfjabGreat
open Go.RowKit
set_option linter.unusedVariables false
set_option linter.unusedSimpArgs false

theorem prs_mem {L R : List (List Vt)} {a b : Nat} {x : List Vt} (h : x ∈ prsP L R a b) : ∃ l ∈ L, ∃ r ∈ R, x = l ++ r := by
  unfold prsP at h
  obtain ⟨l, hl, h2⟩ := List.mem_flatMap.1 h
  obtain ⟨r, hr, rfl⟩ := List.mem_map.1 h2
  exact ⟨l, hl, r, (List.mem_filter.1 hr).1, rfl⟩
theorem prs_len {L R : List (List Vt)} {a b : Nat} : (prsP L R a b).length ≤ L.length * R.length := by
  induction L with
  | nil => simp [prsP]
  | cons l L ih =>
    have e : prsP (l :: L) R a b = ((R.filter fun r => akP l r a b).map fun r => l ++ r) ++ prsP L R a b := by simp [prsP]
    have h1 : (R.filter fun r => akP l r a b).length ≤ R.length := List.length_filter_le _ _
    rw [e, List.length_append, List.length_map, List.length_cons, Nat.succ_mul]
    omega
theorem fnd_noneN : ∀ (C : List It) (L : List (List Vt)), fndP (fun r => hoL C r []) L = (L, 0)
  | _, [] => rfl
  | C, r :: L => by
    rw [fndP, fnd_noneN C L]
    rfl
/-- Select of two tables, and nothing else. -/
theorem selJ_any {s : Sv} (h6 : s.k = 6) (hj : s.jn ≠ ⟨#[]⟩) (hio : s.it.2.1 = 0 ∧ s.it.2.2 ≤ 9223372036854775807) (hod : s.od.2.1 = 0) {t u : Tbl} (ht : t.cols.length ≤ 200) (hu : u.cols.length ≤ 200) {c x c2 x2 lr rr : Sl} {w : World} {Q1 Q2 Q3 Q4 Q5 Q6 Q7 Q8 : Nat → Prop} (hc : RowIs eCol Q1 w (slV c) t.cols) (hx : RowIs eStr Q2 w (slV x) t.index) (hc2 : RowIs eCol Q3 w (slV c2) u.cols) (hx2 : RowIs eStr Q4 w (slV x2) u.index)
    {L R : List (List Vt)} (hL : RowIs eRow Q5 w (slV lr) L) (hR : RowIs eRow Q6 w (slV rr) R) (hLn : L.length ≤ 20) (hRn : R.length ≤ 20) (hL0 : 0 < t.cols.length) (okL : ∀ r ∈ L, r.length = t.cols.length ∧ ∀ v ∈ r, Fits v.2.1 ∧ v.2.2.size ≤ 281474976710656) (okR : ∀ r ∈ R, r.length = u.cols.length ∧ ∀ v ∈ r, Fits v.2.1 ∧ v.2.2.size ≤ 281474976710656)
    {p1 p2 : Pg × Tg} (hon : RowIs eG Q7 w (slV s.on) [p1, p2]) {a b : Nat} (ha : a ≤ 1000) (hb : b ≤ 1000) (n1 : naP (scP [t, u]) p1 = ((a : Int), 0)) (n2 : naP (scP [t, u]) p2 = ((b : Int), 0)) (hw : RowIs eG Q8 w (slV s.wh) []) :
    Calls Tryz.prog 7 #[stV s, tbV t.name c x, tbV u.name c2 x2, slV lr, slV rr] w (TeSel w 0 (prsP L R a b)) := by
  have hCl : (scP [t, u]).length = t.cols.length + u.cols.length := by simp [scP, scT]
  have ok : ∀ r ∈ prsP L R a b, r.length = (scP [t, u]).length ∧ ∀ v ∈ r, Fits v.2.1 ∧ v.2.2.size ≤ 281474976710656 := fun r hr => by
    obtain ⟨l, hl, r', hr', rfl⟩ := prs_mem hr
    refine ⟨by rw [List.length_append, (okL l hl).1, (okR r' hr').1, hCl], fun v hv => ?_⟩
    rcases List.mem_append.1 hv with h | h
    · exact (okL l hl).2 v h
    · exact (okR r' hr').2 v h
  have hpl : (prsP L R a b).length ≤ 400 := Nat.le_trans prs_len (Nat.mul_le_mul hLn hRn)
  obtain ⟨s0, s1, s2, s3, s4, s5, ⟨ia, iN, ic⟩, s7, s8, s9, ⟨da, dn, dc⟩, s11, s12⟩ := s
  obtain ⟨hi0, hi1⟩ := hio
  dsimp only at h6 hj hi0 hi1 hod hw hon
  subst hi0
  subst hod
  have key := selL_any (s := ⟨s0, s1, s2, s3, s4, s5, (ia, 0, ic), s7, s8, s9, (da, 0, dc), s11, s12⟩) h6 (n1 := t.name) (n2 := u.name) (c1 := c) (x1 := x) (c2 := c2) (x2 := x2) (lr := lr) (rr := rr) (w := w) (C := scP [t, u]) (by omega) (Rs := prsP L R a b) (by omega) (fun r hr => ⟨(ok r hr).1, fun v hv => ((ok r hr).2 v hv).1⟩) (EF := 0)
    (fun W hb9 => fromJ_any hj ht hu (hc.keep (by decide) fun b _ hlt => hb9.block b hlt) (hx.keep (by decide) fun b _ hlt => hb9.block b hlt) (hc2.keep (by decide) fun b _ hlt => hb9.block b hlt) (hx2.keep (by decide) fun b _ hlt => hb9.block b hlt) (hL.keep (by decide) fun b _ hlt => hb9.block b hlt) (hR.keep (by decide) fun b _ hlt => hb9.block b hlt) (fun l hl => by rw [(okL l hl).1]; omega) (fun r hr => by rw [(okR r hr).1]; omega) (hon.keep (by decide) fun b _ hlt => hb9.block b hlt) ha hb n1 n2)
    (l := []) (by simp) (fun x hx => by simp at hx) hw (its := []) (by simp) (Q1 := fun _ => True) ⟨ia, 0, ic, rfl, rfl, Nat.zero_le _, hi1, fun h => absurd h (by omega)⟩ rfl (EO := 0) (EN := 0) (R1 := (fndP (fun r => hoL (scP [t, u]) r []) (prsP L R a b)).1) (R2 := (fndP (fun r => hoL (scP [t, u]) r []) (prsP L R a b)).1)
    (fun W ia' iN' ic' a n c hb h0 hC hr => (ordered0_any s11 W).mono fun e w' ⟨h1, h2⟩ => ⟨a, n, c, h1, fun _ => h2 ▸ hr, h2 ▸ Below.refl _ _⟩)
    (fun W ia' iN' ic' a9 n c hb h0 _ hC hr => by
      rw [fnd_noneN] at hr ⊢
      exact (only0_any (by show (prsP L R a b).length ≤ 500; omega) (fun r h => by rw [(ok r h).1]; omega) (fun r h v hv => ((ok r h).2 v hv).2) hr).mono fun e w' ⟨a', n', c', h1, h2, h3⟩ => ⟨a', n', c', h1, fun _ => h2, fun h => absurd rfl h, h3⟩)
  rw [fnd_noneN] at key
  exact key

end Go.Proofs.YtnlaaejdianfjabGreat
