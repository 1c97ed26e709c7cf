import Derived.Test.YtnboooaockgoiaaGreatDoorAal
import Derived.Test.YtnboooaockgoiaaGreatDoorAam
import Derived.Test.YtnboooaockgoiaaGreatDoorAao
import Derived.Test.YtnboooaockgoiaaGreatDoorAaa
import Derived.ProofKit
import Derived.OpenShut
import Derived.ShutString
import Derived.ChangeOld
import Derived.Below
import Derived.Deep.Strs
import Derived.ChangeMaps5
import Derived.Test.YtnboooaockgoiaaGreatDoorAat
import Derived.Deep.RegionHeld3
namespace Go.Proofs.YtnboooaockgoiaaGreatDoor
open Go.RowKit
set_option linter.unusedVariables false
set_option linter.unusedSimpArgs false

set_option maxRecDepth 100000 in
set_option maxHeartbeats 20000000 in
theorem playStmt_2 {g r : Nat} {w : World} (h : Pk w g r) (hk : nxP (w.alloc zSt) g 14 = 2) : Calls Tryz.prog 11 #[.pointer (some ⟨g, 0, none⟩)] w (TeSf g r w StOK) := by
  have hgl := h.lt
  have hR0 : Bs (w.alloc zSt) w.heap.size (zS 0) := Bs.new w (zS 0)
  have hU0 : But g w (w.alloc zSt) := (But.refl g w).alloc _
  have hp0 := h.alloc zSt
  have HN : Hid _ := hid (num_exact hp0 14 (by decide) (by decide))
  clear h
  go_enter Tryz.func11, Tryz.ntmps11
  go_wp2_with fail
  refine Calls.mono HN.out ?_
  rintro e w2 ⟨r2, rfl, hk14, hl, hp2, hb2⟩
  generalize nxP (w.alloc zSt) g 14 = k at *
  have hU2 := hU0.trans hb2
  have hR2 := hR0.but hb2 (by omega)
  have hl2 := hl.1
  have HX : Hid (w.heap.size = w.heap.size) := hid rfl
  clear HN hU0 hR0 hp0 hb2 hl
  generalize hzz : w.heap.size = z at hR2 hgl HX ⊢
  replace HX : Hid (z = w.heap.size) := hid hzz.symm
  clear hzz
  have hzl2 := hR2.lt
  subst hk
  have g0 : (((2 : Nat) : Int) == 0) = false := by decide
  have g1 : (((2 : Nat) : Int) == 1) = false := by decide
  have HSc : Hid _ := hid (schema_any w2)
  go_upto_region 15 with fail
  go_cut [6] (fun v6 w' => ∃ y bt, v6 = .pointer (some ⟨y, 0, none⟩) ∧ Blk w' y (scO bt) ∧ RowIs eTab (fun b => b ≠ g ∧ z < b) w' (.slice (some ⟨bt, 0, none⟩) 2 2) [tabT, tabU] ∧ w2.heap.size ≤ y ∧ Below w2.heap.size w2 w')
  case first =>
    go_wp2_with fail
    refine Calls.mono HSc.out ?_
    rintro e w3 ⟨bt, rfl, hT, hbt, hb3⟩
    have hb4 := bal (Below.refl _ w3) (scO bt)
    have hgl2 := hp2.lt
    have T : Hid _ := hid (And.intro (Blk.new w3 (scO bt)) (And.intro ((hT.mono (by decide) (Q' := fun b => b ≠ g ∧ z < b) fun b hb _ => by omega).keep (by decide) fun b _ hl => hb4.block b hl) (And.intro hb3.size (Below.on hb3 hb4))))
    clear HSc hT hb3 hb4
    go_wp2_with fail
    go_meet
    exact ⟨_, bt, rfl, T.out.1, T.out.2.1, T.out.2.2.1, T.out.2.2.2⟩
  case rest =>
  obtain ⟨y, bt, rfl, hY, hT, hyz, hb3⟩ := hcut
  have hE3 : But g w2 wc := But.of hb3
  have hp3 := hp2.later hb3
  have hU3 := hU2.trans hE3
  have hR3 := hR2.later hb3
  have hzl3 := hR3.lt
  have hyl3 := hY.lt
  have hgl2 := hp2.lt
  clear HSc hb3 hE3 hp2 hU2 hR2
  have hD : But g wc wc.drew := But.of (Below.refl _ wc).drew
  have hpD := hp3.later (Below.refl _ wc).drew
  have HT : Hid (∀ w', But g wc w' → RowIs eTab (fun b => b ≠ g) w' (.slice (some ⟨bt, 0, none⟩) 2 2) [tabT, tabU]) := hid fun w' hb => (hT.mono (by decide) fun b hq _ => hq.1).keep (by decide) fun b hq hl => hb.block b hl hq
  have hTT := (HT.out wc (But.refl g wc)).tabs
  have hbz : bt ≠ z := Nat.ne_of_gt (hT.inb (k := 0) (by decide)).2
  obtain ⟨hbt, hbg, -, ⟨x1, y1, z1, x1', y1', z1', t0, t1, t2, rT⟩, ⟨x2, y2, z2, x2', y2', z2', u0, u1, u2, rU⟩⟩ := hTT
  have HK : Hid (∀ w', But g wc w' → w'.cell? ⟨y, 0, none⟩ = some (.slice (some ⟨bt, 0, none⟩) 2 2) ∧ w'.cell? ⟨y, 1, none⟩ = some (.slice none 0 0) ∧ w'.cell? ⟨bt, 0, none⟩ = some (.string ⟨#[116]⟩) ∧ w'.cell? ⟨bt, 1, none⟩ = some (.slice x1 y1 z1) ∧ w'.cell? ⟨bt, 2, none⟩ = some (.slice x1' y1' z1') ∧ w'.cell? ⟨bt, 3, none⟩ = some (.string ⟨#[117]⟩) ∧ w'.cell? ⟨bt, 4, none⟩ = some (.slice x2 y2 z2) ∧ w'.cell? ⟨bt, 5, none⟩ = some (.slice x2' y2' z2')) := hid fun w' hb => by
    have kp : ∀ i v, wc.cell? ⟨bt, i, none⟩ = some v → w'.cell? ⟨bt, i, none⟩ = some v := fun i v h => (World.cell?_of_block (a := ⟨bt, i, none⟩) (hb.block bt hbt hbg)).trans h
    exact ⟨(hY.but hb (by omega)).cell 0, (hY.but hb (by omega)).cell 1, kp _ _ t0, kp _ _ t1, kp _ _ t2, kp _ _ u0, kp _ _ u1, kp _ _ u2⟩
  have HRT : Hid (∀ w', But g wc w' → RowIs eCol (fun b => b ≠ g) w' (.slice x1 y1 z1) tabT.2 ∧ RowIs eCol (fun b => b ≠ g) w' (.slice x2 y2 z2) tabU.2) := hid fun w' hb => ⟨rT.keep (by decide) fun b hq hl => hb.block b hl hq, rU.keep (by decide) fun b hq hl => hb.block b hl hq⟩
  clear hT hY t0 t1 t2 u0 u1 u2 rT rU hp3 g0 g1
  go_upto_region 16 with fail
  refine wp_region_held_drew (S := (fun w' => w'.cell? ⟨y, 0, none⟩ = some (.slice (some ⟨bt, 0, none⟩) 2 2) ∧ w'.cell? ⟨y, 1, none⟩ = some (.slice none 0 0) ∧ w'.cell? ⟨bt, 0, none⟩ = some (.string ⟨#[116]⟩) ∧ w'.cell? ⟨bt, 1, none⟩ = some (.slice x1 y1 z1) ∧ w'.cell? ⟨bt, 2, none⟩ = some (.slice x1' y1' z1') ∧ w'.cell? ⟨bt, 3, none⟩ = some (.string ⟨#[117]⟩) ∧ w'.cell? ⟨bt, 4, none⟩ = some (.slice x2 y2 z2) ∧ w'.cell? ⟨bt, 5, none⟩ = some (.slice x2' y2' z2'))) (by kernel_rfl) (HK.out _ hD) (fun hHeld => ?_)
  refine wpAnyH_take (i := 0) (v := ?tv1) rfl (by kernel_rfl) (by kernel_rfl) (by kernel_rfl) (fun _ _ _ h => h) (Or.inl ⟨by rfl, ?hy1⟩) (by assumption) ?rs1
  case hy1 => (intro w9 hSw; (try dsimp only at hSw); go_simp; (try with_reducible rfl))
  (try simp only [Act.put, List.setIfInBounds_toArray, List.set_cons_zero, List.set_cons_succ])
  refine wpAnyH_take (i := 2) (v := ?tv2) rfl (by kernel_rfl) (by kernel_rfl) (by kernel_rfl) (fun _ _ _ h => h) (Or.inl ⟨by rfl, ?hy2⟩) (by assumption) ?rs2
  case hy2 => (intro w9 hSw; (try dsimp only at hSw); go_simp; (try with_reducible rfl))
  (try simp only [Act.put, List.setIfInBounds_toArray, List.set_cons_zero, List.set_cons_succ])
  refine wpAnyH_take (i := 4) (v := ?tv3) rfl (by kernel_rfl) (by kernel_rfl) (by kernel_rfl) (fun _ _ _ h => h) (Or.inl ⟨by rfl, ?hy3⟩) (by assumption) ?rs3
  case hy3 => (intro w9 hSw; (try dsimp only at hSw); go_simp; (try with_reducible rfl))
  (try simp only [Act.put, List.setIfInBounds_toArray, List.set_cons_zero, List.set_cons_succ])
  refine wpAnyH_take (i := 5) (v := ?tv4) rfl (by kernel_rfl) (by kernel_rfl) (by kernel_rfl) (fun _ _ _ h => h) (Or.inl ⟨by rfl, ?hy4⟩) (by assumption) ?rs4
  case hy4 => (intro w9 hSw; (try dsimp only at hSw); go_simp; (try with_reducible rfl))
  (try simp only [Act.put, List.setIfInBounds_toArray, List.set_cons_zero, List.set_cons_succ])
  refine wpAnyH_take (i := 6) (v := ?tv5) rfl (by kernel_rfl) (by kernel_rfl) (by kernel_rfl) (fun _ _ _ h => h) (Or.inl ⟨by rfl, ?hy5⟩) (by assumption) ?rs5
  case hy5 => (intro w9 hSw; (try dsimp only at hSw); go_simp; (try with_reducible rfl))
  (try simp only [Act.put, List.setIfInBounds_toArray, List.set_cons_zero, List.set_cons_succ])
  refine wpAnyH_take (i := 7) (v := ?tv6) rfl (by kernel_rfl) (by kernel_rfl) (by kernel_rfl) (fun _ _ _ h => h) (Or.inl ⟨by rfl, ?hy6⟩) (by assumption) ?rs6
  case hy6 => (intro w9 hSw; (try dsimp only at hSw); go_simp; (try with_reducible rfl))
  (try simp only [Act.put, List.setIfInBounds_toArray, List.set_cons_zero, List.set_cons_succ])
  refine wpAnyH_take (i := 8) (v := ?tv7) rfl (by kernel_rfl) (by kernel_rfl) (by kernel_rfl) (fun _ _ _ h => h) (Or.inl ⟨by rfl, ?hy7⟩) (by assumption) ?rs7
  case hy7 => (intro w9 hSw; (try dsimp only at hSw); go_simp; (try with_reducible rfl))
  (try simp only [Act.put, List.setIfInBounds_toArray, List.set_cons_zero, List.set_cons_succ])
  refine wpAnyH_ready (rs := [1]) (by kernel_rfl) (by simp) ?_
  refine AllReadyH.cons rfl (fun K hK => ?_) AllReadyH.nil
  go_simp
  go_wp2_with (first | (go_at_call 23; refine Calls.mono (view_any hpD) ?_; rintro e v1 ⟨nm1, r3, rfl, hnm, hl3, hp3, hb3⟩))
  have hE1 : But g wc v1 := hD.trans hb3
  refine hK.out _ _ (HK.out _ hE1) (fun hHeld => ?_)
  clear hK K
  (try simp only [Act.put, List.setIfInBounds_toArray, List.set_cons_zero, List.set_cons_succ])
  refine wpAnyH_ready (rs := [3]) (by kernel_rfl) (by simp) ?_
  refine AllReadyH.cons rfl (fun K hK => ?_) AllReadyH.nil
  go_simp
  go_wp2_with (first | (go_at_call 24; refine Calls.mono (tags_any hp3) ?_; rintro e v2 ⟨ta, tn, tc, tl, r4, rfl, htg, ho1, hl4, hp4, hb4⟩))
  have hE2 : But g wc v2 := hE1.trans hb4
  refine hK.out _ _ (HK.out _ hE2) (fun hHeld => ?_)
  clear hK K
  (try simp only [Act.put, List.setIfInBounds_toArray, List.set_cons_zero, List.set_cons_succ])
  refine wpAnyH_ready (rs := [9]) (by kernel_rfl) (by simp) ?_
  refine AllReadyH.cons rfl (fun K hK => ?_) AllReadyH.nil
  go_simp
  go_wp2_with (first | (go_at_call 18; refine Calls.mono (num_any hp4 2 (by decide) (by decide)) ?_; rintro e v3 ⟨k3, r5, rfl, hk3, hl5, hp5, hb5⟩))
  have hE3 : But g wc v3 := hE2.trans hb5
  have ho2 := ho1.but hb5 (by have := hE1.size; omega)
  rcases (show k3 = 0 ∨ k3 = 1 by omega) with rfl | rfl
  · refine hK.out _ _ (HK.out _ hE3) (fun hHeld => ?_)
    clear hK K
    (try simp only [Act.put, List.setIfInBounds_toArray, List.set_cons_zero, List.set_cons_succ])
    refine wpAnyH_take (i := 10) (v := ?tv8) rfl (by kernel_rfl) (by kernel_rfl) (by kernel_rfl) (fun _ _ _ h => h) (Or.inl ⟨by rfl, ?hy8⟩) (by assumption) ?rs8
    case hy8 => (intro w9 hSw; (try dsimp only at hSw); go_simp; (try with_reducible rfl))
    (try simp only [Act.put, List.setIfInBounds_toArray, List.set_cons_zero, List.set_cons_succ])
    refine wpAnyH_take (i := 11) (v := ?tv9) rfl (by kernel_rfl) (by kernel_rfl) (by kernel_rfl) (fun _ _ _ h => h) (Or.inl ⟨by rfl, ?hy9⟩) (by assumption) ?rs9
    case hy9 => (intro w9 hSw; (try dsimp only at hSw); go_simp; (try with_reducible rfl))
    (try simp only [Act.put, List.setIfInBounds_toArray, List.set_cons_zero, List.set_cons_succ])
    refine wpAnyH_ready (rs := [12]) (by kernel_rfl) (by simp) ?_
    refine AllReadyH.cons rfl (fun K hK => ?_) AllReadyH.nil
    go_simp
    go_wp2_with (first | (go_at_call 25; refine Calls.mono (playSel_any (tb := tabT) (va := none) (vn := 0) (vc := 0) (a' := x1') (n' := y1') (c' := z1') hp5 (HT.out _ hE3) (.inl rfl) (HRT.out _ hE3).1) ?_; rintro e v4 ⟨s, m, r6, rfl, hm, hl6, hp6, hb6, hI, hinn⟩))
    have hE4 : But g wc v4 := hE3.trans hb6
    have ho3 := ho2.but hb6 (by have := hE1.size; omega)
    obtain ⟨sk, stb, snm, sco, sta, sva, sit, sjn, son, swh, sod, sds, sinn⟩ := s
    replace hinn : sinn = (none, 0, 0) := hinn
    subst hinn
    unfold stV
    dsimp only
    refine hK.out _ _ (HK.out _ hE4) (fun hHeld => ?_)
    clear hK K
    (try simp only [Act.put, List.setIfInBounds_toArray, List.set_cons_zero, List.set_cons_succ])
    refine wpAnyH_ready (rs := [13]) (by kernel_rfl) (by simp) ?_
    refine AllReadyH.cons rfl (fun K hK => ?_) AllReadyH.nil
    go_simp
    refine hK.out _ _ (HK.out _ (hE4.alloc (svO (⟨sk, stb, snm, sco, sta, sva, sit, sjn, son, swh, sod, sds, (none, 0, 0)⟩ : Sv)))) (fun hHeld => ?_)
    clear hK K
    (try simp only [Act.put, List.setIfInBounds_toArray, List.set_cons_zero, List.set_cons_succ])
    refine wpAnyH_take (i := 14) (v := ?tv10) rfl (by kernel_rfl) (by kernel_rfl) (by kernel_rfl) (fun _ _ _ h => h) (Or.inl ⟨by rfl, ?hy10⟩) (by assumption) ?rs10
    case hy10 => (intro w9 hSw; (try dsimp only at hSw); go_simp; (try with_reducible rfl))
    (try simp only [Act.put, List.setIfInBounds_toArray, List.set_cons_zero, List.set_cons_succ])
    refine wpAnyH_ready (rs := [15]) (by kernel_rfl) (by simp) ?_
    refine AllReadyH.cons rfl (fun K hK => ?_) AllReadyH.nil
    have hs4 := hE4.size
    have hs3 := hE3.size
    have hs1 := hE1.size
    have hs2 := hE2.size
    have hE5 : But g wc (v4.alloc (svO (⟨sk, stb, snm, sco, sta, sva, sit, sjn, son, swh, sod, sds, (none, 0, 0)⟩ : Sv))) := hE4.alloc _
    have hrS : RowIs eStmt (fun b => z < b) (v4.alloc (svO (⟨sk, stb, snm, sco, sta, sva, sit, sjn, son, swh, sod, sds, (none, 0, 0)⟩ : Sv))) (.slice (some ⟨v4.heap.size, 0, none⟩) 1 1) [m] := row_onS (s := (⟨sk, stb, snm, sco, sta, sva, sit, sjn, son, swh, sod, sds, (none, 0, 0)⟩ : Sv)) (by omega) (hI.mono fun b hb _ => by have h9 : v3.heap.size ≤ b := hb; omega) rfl
    have hrT : RowIs eTag (fun b => z < b) (v4.alloc (svO (⟨sk, stb, snm, sco, sta, sva, sit, sjn, son, swh, sod, sds, (none, 0, 0)⟩ : Sv))) (.slice ta tn tc) tl := tags_row (ho3.alloc (svO (⟨sk, stb, snm, sco, sta, sva, sit, sjn, son, swh, sod, sds, (none, 0, 0)⟩ : Sv))) (by omega)
    have hp7 : Pk (v4.alloc (svO (⟨sk, stb, snm, sco, sta, sva, sit, sjn, son, swh, sod, sds, (none, 0, 0)⟩ : Sv))) g r6 := hp6.alloc _
    have hr6 : r6 ≤ r := by have := hl5.1; have := hl6.1; omega
    clear ho1 ho2 ho3 hI hp3 hp4 hp5 hp6 hb3 hb4 hb5 hb6 hE4 hpD hD HRT
    generalize v4.alloc (svO (⟨sk, stb, snm, sco, sta, sva, sit, sjn, son, swh, sod, sds, (none, 0, 0)⟩ : Sv)) = V at *
    generalize v4.heap.size = rb at *
    have hRf : Bs V z (zS 0) := hR3.but hE5 (by omega)
    have cR := hRf.cells
    have fR := hRf.free
    have hzlf := hRf.lt
    have d0 := cR.1
    have d1 := cR.2.1
    have d2 := cR.2.2.1
    have d3 := cR.2.2.2.1
    have d4 := cR.2.2.2.2.1
    have d5 := cR.2.2.2.2.2.1
    have d6 := cR.2.2.2.2.2.2.1
    have d7 := cR.2.2.2.2.2.2.2.1
    have d8 := cR.2.2.2.2.2.2.2.2.1
    have d9 := cR.2.2.2.2.2.2.2.2.2.1
    have d10 := cR.2.2.2.2.2.2.2.2.2.2.1
    have d11 := cR.2.2.2.2.2.2.2.2.2.2.2.1
    have d12 := cR.2.2.2.2.2.2.2.2.2.2.2.2
    have f0 := fR.1
    have f1 := fR.2.1
    have f2 := fR.2.2.1
    have f3 := fR.2.2.2.1
    have f4 := fR.2.2.2.2.1
    have f5 := fR.2.2.2.2.2.1
    have f6 := fR.2.2.2.2.2.2.1
    have f7 := fR.2.2.2.2.2.2.2.1
    have f8 := fR.2.2.2.2.2.2.2.2.1
    have f9 := fR.2.2.2.2.2.2.2.2.2.1
    have f10 := fR.2.2.2.2.2.2.2.2.2.2.1
    have f11 := fR.2.2.2.2.2.2.2.2.2.2.2.1
    have f12 := fR.2.2.2.2.2.2.2.2.2.2.2.2
    clear cR fR
    have T : Hid (TeSf g r w StOK (.returned (stV (⟨3, ⟨#[]⟩, nm1, (none, 0, 0), (ta, tn, tc), (none, 0, 0), (none, 0, 0), ⟨#[]⟩, (none, 0, 0), (none, 0, 0), (none, 0, 0), false, (some ⟨rb, 0, none⟩, 1, 1)⟩ : Sv))) (set13 V z (⟨3, ⟨#[]⟩, nm1, (none, 0, 0), (ta, tn, tc), (none, 0, 0), (none, 0, 0), ⟨#[]⟩, (none, 0, 0), (none, 0, 0), (none, 0, 0), false, (some ⟨rb, 0, none⟩, 1, 1)⟩ : Sv))) := hid (TeSf.fin (m := (⟨3, ⟨#[]⟩, nm1, [], tl, [], [], ⟨#[]⟩, [], [], [], false⟩, [m])) (hU3.trans hE5) { IsS.zero _ _ 3 with nm := rfl, ta := hrT } hrS (.inr (.inr (.inl ⟨nm1, tl, m, tabT, hnm, htg, .inl rfl, hm, rfl⟩))) hr6 hp7 hgl HX.out)
    clear hRf hrS hrT hp7 hnm htg hm hU3 hR3
    unfold set13 at T
    unfold stV at T
    dsimp only at T
    have HKs : Hid _ := hid (HK.out V hE5)
    clear HT
    go_simp
    refine hK.out _ _ ((by have h9 := HKs.out; have kp : ∀ b i v, b ≠ z → V.cell? ⟨b, i, none⟩ = some v → (set13 V z (⟨3, ⟨#[]⟩, nm1, (none, 0, 0), (ta, tn, tc), (none, 0, 0), (none, 0, 0), ⟨#[]⟩, (none, 0, 0), (none, 0, 0), (none, 0, 0), false, (some ⟨rb, 0, none⟩, 1, 1)⟩ : Sv)).cell? ⟨b, i, none⟩ = some v := (fun b i v hb h => (World.cell?_of_block (a := ⟨b, i, none⟩) (set13_heap V z (⟨3, ⟨#[]⟩, nm1, (none, 0, 0), (ta, tn, tc), (none, 0, 0), (none, 0, 0), ⟨#[]⟩, (none, 0, 0), (none, 0, 0), (none, 0, 0), false, (some ⟨rb, 0, none⟩, 1, 1)⟩ : Sv) hb)).trans h); exact ⟨kp _ _ _ (by omega) h9.1, kp _ _ _ (by omega) h9.2.1, kp _ _ _ hbz h9.2.2.1, kp _ _ _ hbz h9.2.2.2.1, kp _ _ _ hbz h9.2.2.2.2.1, kp _ _ _ hbz h9.2.2.2.2.2.1, kp _ _ _ hbz h9.2.2.2.2.2.2.1, kp _ _ _ hbz h9.2.2.2.2.2.2.2⟩)) (fun hHeld => ?_)
    clear hK K
    (try simp only [Act.put, List.setIfInBounds_toArray, List.set_cons_zero, List.set_cons_succ])
    refine wpAnyH_done (by kernel_rfl) ?_ _
    go_wp2
    refine bodyPost_ret (v := stV (⟨3, ⟨#[]⟩, nm1, (none, 0, 0), (ta, tn, tc), (none, 0, 0), (none, 0, 0), ⟨#[]⟩, (none, 0, 0), (none, 0, 0), (none, 0, 0), false, (some ⟨rb, 0, none⟩, 1, 1)⟩ : Sv)) (by simp [results, Tryz.results11, go_sem, stV, d0, d1, d2, d3, d4, d5, d6, d7, d8, d9, d10, d11, d12]) rfl ?_
    exact T.out
  · refine hK.out _ _ (HK.out _ hE3) (fun hHeld => ?_)
    clear hK K
    (try simp only [Act.put, List.setIfInBounds_toArray, List.set_cons_zero, List.set_cons_succ])
    refine wpAnyH_take (i := 10) (v := ?tv11) rfl (by kernel_rfl) (by kernel_rfl) (by kernel_rfl) (fun _ _ _ h => h) (Or.inl ⟨by rfl, ?hy11⟩) (by assumption) ?rs11
    case hy11 => (intro w9 hSw; (try dsimp only at hSw); go_simp; (try with_reducible rfl))
    (try simp only [Act.put, List.setIfInBounds_toArray, List.set_cons_zero, List.set_cons_succ])
    refine wpAnyH_take (i := 11) (v := ?tv12) rfl (by kernel_rfl) (by kernel_rfl) (by kernel_rfl) (fun _ _ _ h => h) (Or.inl ⟨by rfl, ?hy12⟩) (by assumption) ?rs12
    case hy12 => (intro w9 hSw; (try dsimp only at hSw); go_simp; (try with_reducible rfl))
    (try simp only [Act.put, List.setIfInBounds_toArray, List.set_cons_zero, List.set_cons_succ])
    refine wpAnyH_ready (rs := [12]) (by kernel_rfl) (by simp) ?_
    refine AllReadyH.cons rfl (fun K hK => ?_) AllReadyH.nil
    go_simp
    go_wp2_with (first | (go_at_call 25; refine Calls.mono (playSel_any (tb := tabU) (va := none) (vn := 0) (vc := 0) (a' := x2') (n' := y2') (c' := z2') hp5 (HT.out _ hE3) (.inr rfl) (HRT.out _ hE3).2) ?_; rintro e v4 ⟨s, m, r6, rfl, hm, hl6, hp6, hb6, hI, hinn⟩))
    have hE4 : But g wc v4 := hE3.trans hb6
    have ho3 := ho2.but hb6 (by have := hE1.size; omega)
    obtain ⟨sk, stb, snm, sco, sta, sva, sit, sjn, son, swh, sod, sds, sinn⟩ := s
    replace hinn : sinn = (none, 0, 0) := hinn
    subst hinn
    unfold stV
    dsimp only
    refine hK.out _ _ (HK.out _ hE4) (fun hHeld => ?_)
    clear hK K
    (try simp only [Act.put, List.setIfInBounds_toArray, List.set_cons_zero, List.set_cons_succ])
    refine wpAnyH_ready (rs := [13]) (by kernel_rfl) (by simp) ?_
    refine AllReadyH.cons rfl (fun K hK => ?_) AllReadyH.nil
    go_simp
    refine hK.out _ _ (HK.out _ (hE4.alloc (svO (⟨sk, stb, snm, sco, sta, sva, sit, sjn, son, swh, sod, sds, (none, 0, 0)⟩ : Sv)))) (fun hHeld => ?_)
    clear hK K
    (try simp only [Act.put, List.setIfInBounds_toArray, List.set_cons_zero, List.set_cons_succ])
    refine wpAnyH_take (i := 14) (v := ?tv13) rfl (by kernel_rfl) (by kernel_rfl) (by kernel_rfl) (fun _ _ _ h => h) (Or.inl ⟨by rfl, ?hy13⟩) (by assumption) ?rs13
    case hy13 => (intro w9 hSw; (try dsimp only at hSw); go_simp; (try with_reducible rfl))
    (try simp only [Act.put, List.setIfInBounds_toArray, List.set_cons_zero, List.set_cons_succ])
    refine wpAnyH_ready (rs := [15]) (by kernel_rfl) (by simp) ?_
    refine AllReadyH.cons rfl (fun K hK => ?_) AllReadyH.nil
    have hs4 := hE4.size
    have hs3 := hE3.size
    have hs1 := hE1.size
    have hs2 := hE2.size
    have hE5 : But g wc (v4.alloc (svO (⟨sk, stb, snm, sco, sta, sva, sit, sjn, son, swh, sod, sds, (none, 0, 0)⟩ : Sv))) := hE4.alloc _
    have hrS : RowIs eStmt (fun b => z < b) (v4.alloc (svO (⟨sk, stb, snm, sco, sta, sva, sit, sjn, son, swh, sod, sds, (none, 0, 0)⟩ : Sv))) (.slice (some ⟨v4.heap.size, 0, none⟩) 1 1) [m] := row_onS (s := (⟨sk, stb, snm, sco, sta, sva, sit, sjn, son, swh, sod, sds, (none, 0, 0)⟩ : Sv)) (by omega) (hI.mono fun b hb _ => by have h9 : v3.heap.size ≤ b := hb; omega) rfl
    have hrT : RowIs eTag (fun b => z < b) (v4.alloc (svO (⟨sk, stb, snm, sco, sta, sva, sit, sjn, son, swh, sod, sds, (none, 0, 0)⟩ : Sv))) (.slice ta tn tc) tl := tags_row (ho3.alloc (svO (⟨sk, stb, snm, sco, sta, sva, sit, sjn, son, swh, sod, sds, (none, 0, 0)⟩ : Sv))) (by omega)
    have hp7 : Pk (v4.alloc (svO (⟨sk, stb, snm, sco, sta, sva, sit, sjn, son, swh, sod, sds, (none, 0, 0)⟩ : Sv))) g r6 := hp6.alloc _
    have hr6 : r6 ≤ r := by have := hl5.1; have := hl6.1; omega
    clear ho1 ho2 ho3 hI hp3 hp4 hp5 hp6 hb3 hb4 hb5 hb6 hE4 hpD hD HRT
    generalize v4.alloc (svO (⟨sk, stb, snm, sco, sta, sva, sit, sjn, son, swh, sod, sds, (none, 0, 0)⟩ : Sv)) = V at *
    generalize v4.heap.size = rb at *
    have hRf : Bs V z (zS 0) := hR3.but hE5 (by omega)
    have cR := hRf.cells
    have fR := hRf.free
    have hzlf := hRf.lt
    have d0 := cR.1
    have d1 := cR.2.1
    have d2 := cR.2.2.1
    have d3 := cR.2.2.2.1
    have d4 := cR.2.2.2.2.1
    have d5 := cR.2.2.2.2.2.1
    have d6 := cR.2.2.2.2.2.2.1
    have d7 := cR.2.2.2.2.2.2.2.1
    have d8 := cR.2.2.2.2.2.2.2.2.1
    have d9 := cR.2.2.2.2.2.2.2.2.2.1
    have d10 := cR.2.2.2.2.2.2.2.2.2.2.1
    have d11 := cR.2.2.2.2.2.2.2.2.2.2.2.1
    have d12 := cR.2.2.2.2.2.2.2.2.2.2.2.2
    have f0 := fR.1
    have f1 := fR.2.1
    have f2 := fR.2.2.1
    have f3 := fR.2.2.2.1
    have f4 := fR.2.2.2.2.1
    have f5 := fR.2.2.2.2.2.1
    have f6 := fR.2.2.2.2.2.2.1
    have f7 := fR.2.2.2.2.2.2.2.1
    have f8 := fR.2.2.2.2.2.2.2.2.1
    have f9 := fR.2.2.2.2.2.2.2.2.2.1
    have f10 := fR.2.2.2.2.2.2.2.2.2.2.1
    have f11 := fR.2.2.2.2.2.2.2.2.2.2.2.1
    have f12 := fR.2.2.2.2.2.2.2.2.2.2.2.2
    clear cR fR
    have T : Hid (TeSf g r w StOK (.returned (stV (⟨3, ⟨#[]⟩, nm1, (none, 0, 0), (ta, tn, tc), (none, 0, 0), (none, 0, 0), ⟨#[]⟩, (none, 0, 0), (none, 0, 0), (none, 0, 0), false, (some ⟨rb, 0, none⟩, 1, 1)⟩ : Sv))) (set13 V z (⟨3, ⟨#[]⟩, nm1, (none, 0, 0), (ta, tn, tc), (none, 0, 0), (none, 0, 0), ⟨#[]⟩, (none, 0, 0), (none, 0, 0), (none, 0, 0), false, (some ⟨rb, 0, none⟩, 1, 1)⟩ : Sv))) := hid (TeSf.fin (m := (⟨3, ⟨#[]⟩, nm1, [], tl, [], [], ⟨#[]⟩, [], [], [], false⟩, [m])) (hU3.trans hE5) { IsS.zero _ _ 3 with nm := rfl, ta := hrT } hrS (.inr (.inr (.inl ⟨nm1, tl, m, tabU, hnm, htg, .inr rfl, hm, rfl⟩))) hr6 hp7 hgl HX.out)
    clear hRf hrS hrT hp7 hnm htg hm hU3 hR3
    unfold set13 at T
    unfold stV at T
    dsimp only at T
    have HKs : Hid _ := hid (HK.out V hE5)
    clear HT
    go_simp
    refine hK.out _ _ ((by have h9 := HKs.out; have kp : ∀ b i v, b ≠ z → V.cell? ⟨b, i, none⟩ = some v → (set13 V z (⟨3, ⟨#[]⟩, nm1, (none, 0, 0), (ta, tn, tc), (none, 0, 0), (none, 0, 0), ⟨#[]⟩, (none, 0, 0), (none, 0, 0), (none, 0, 0), false, (some ⟨rb, 0, none⟩, 1, 1)⟩ : Sv)).cell? ⟨b, i, none⟩ = some v := (fun b i v hb h => (World.cell?_of_block (a := ⟨b, i, none⟩) (set13_heap V z (⟨3, ⟨#[]⟩, nm1, (none, 0, 0), (ta, tn, tc), (none, 0, 0), (none, 0, 0), ⟨#[]⟩, (none, 0, 0), (none, 0, 0), (none, 0, 0), false, (some ⟨rb, 0, none⟩, 1, 1)⟩ : Sv) hb)).trans h); exact ⟨kp _ _ _ (by omega) h9.1, kp _ _ _ (by omega) h9.2.1, kp _ _ _ hbz h9.2.2.1, kp _ _ _ hbz h9.2.2.2.1, kp _ _ _ hbz h9.2.2.2.2.1, kp _ _ _ hbz h9.2.2.2.2.2.1, kp _ _ _ hbz h9.2.2.2.2.2.2.1, kp _ _ _ hbz h9.2.2.2.2.2.2.2⟩)) (fun hHeld => ?_)
    clear hK K
    (try simp only [Act.put, List.setIfInBounds_toArray, List.set_cons_zero, List.set_cons_succ])
    refine wpAnyH_done (by kernel_rfl) ?_ _
    go_wp2
    refine bodyPost_ret (v := stV (⟨3, ⟨#[]⟩, nm1, (none, 0, 0), (ta, tn, tc), (none, 0, 0), (none, 0, 0), ⟨#[]⟩, (none, 0, 0), (none, 0, 0), (none, 0, 0), false, (some ⟨rb, 0, none⟩, 1, 1)⟩ : Sv)) (by simp [results, Tryz.results11, go_sem, stV, d0, d1, d2, d3, d4, d5, d6, d7, d8, d9, d10, d11, d12]) rfl ?_
    exact T.out

end Go.Proofs.YtnboooaockgoiaaGreatDoor
namespace Go.Proofs.YtnboooaockgoiaaGreatDoor
open Go.RowKit
set_option linter.unusedVariables false
set_option linter.unusedSimpArgs false

set_option maxRecDepth 100000 in
set_option maxHeartbeats 20000000 in
theorem playStmt_6 {g r : Nat} {w : World} (h : Pk w g r) (hk : nxP (w.alloc zSt) g 14 = 6) : Calls Tryz.prog 11 #[.pointer (some ⟨g, 0, none⟩)] w (TeSf g r w StOK) := by
  have hgl := h.lt
  have hR0 : Bs (w.alloc zSt) w.heap.size (zS 0) := Bs.new w (zS 0)
  have hU0 : But g w (w.alloc zSt) := (But.refl g w).alloc _
  have hp0 := h.alloc zSt
  have HN : Hid _ := hid (num_exact hp0 14 (by decide) (by decide))
  clear h
  go_enter Tryz.func11, Tryz.ntmps11
  go_wp2_with fail
  refine Calls.mono HN.out ?_
  rintro e w2 ⟨r2, rfl, hk14, hl, hp2, hb2⟩
  generalize nxP (w.alloc zSt) g 14 = k at *
  have hU2 := hU0.trans hb2
  have hR2 := hR0.but hb2 (by omega)
  have hl2 := hl.1
  have HX : Hid (w.heap.size = w.heap.size) := hid rfl
  clear HN hU0 hR0 hp0 hb2 hl
  generalize hzz : w.heap.size = z at hR2 hgl HX ⊢
  replace HX : Hid (z = w.heap.size) := hid hzz.symm
  clear hzz
  have hzl2 := hR2.lt
  subst hk
  have g0 : (((6 : Nat) : Int) == 0) = false := by decide
  have g1 : (((6 : Nat) : Int) == 1) = false := by decide
  have g2 : (((6 : Nat) : Int) == 2) = false := by decide
  have g3 : (((6 : Nat) : Int) == 3) = false := by decide
  have g4 : (((6 : Nat) : Int) == 4) = false := by decide
  have g5 : (((6 : Nat) : Int) == 5) = false := by decide
  have HV : Hid _ := hid (view_any hp2)
  go_wp2_with fail
  refine Calls.mono HV.out ?_
  rintro e u ⟨nm1, r3, rfl, hnm, hl3, hp3, hE⟩
  have hRf : Bs u z (zS 0) := hR2.but hE (by omega)
  have cR := hRf.cells
  have fR := hRf.free
  have hzlf := hRf.lt
  have d0 := cR.1
  have d1 := cR.2.1
  have d2 := cR.2.2.1
  have d3 := cR.2.2.2.1
  have d4 := cR.2.2.2.2.1
  have d5 := cR.2.2.2.2.2.1
  have d6 := cR.2.2.2.2.2.2.1
  have d7 := cR.2.2.2.2.2.2.2.1
  have d8 := cR.2.2.2.2.2.2.2.2.1
  have d9 := cR.2.2.2.2.2.2.2.2.2.1
  have d10 := cR.2.2.2.2.2.2.2.2.2.2.1
  have d11 := cR.2.2.2.2.2.2.2.2.2.2.2.1
  have d12 := cR.2.2.2.2.2.2.2.2.2.2.2.2
  have f0 := fR.1
  have f1 := fR.2.1
  have f2 := fR.2.2.1
  have f3 := fR.2.2.2.1
  have f4 := fR.2.2.2.2.1
  have f5 := fR.2.2.2.2.2.1
  have f6 := fR.2.2.2.2.2.2.1
  have f7 := fR.2.2.2.2.2.2.2.1
  have f8 := fR.2.2.2.2.2.2.2.2.1
  have f9 := fR.2.2.2.2.2.2.2.2.2.1
  have f10 := fR.2.2.2.2.2.2.2.2.2.2.1
  have f11 := fR.2.2.2.2.2.2.2.2.2.2.2.1
  have f12 := fR.2.2.2.2.2.2.2.2.2.2.2.2
  clear cR fR
  have T : Hid (TeSf g r w StOK (.returned (stV (⟨13, ⟨#[]⟩, nm1, (none, 0, 0), (none, 0, 0), (none, 0, 0), (none, 0, 0), ⟨#[]⟩, (none, 0, 0), (none, 0, 0), (none, 0, 0), false, (none, 0, 0)⟩ : Sv))) (set13 u z (⟨13, ⟨#[]⟩, nm1, (none, 0, 0), (none, 0, 0), (none, 0, 0), (none, 0, 0), ⟨#[]⟩, (none, 0, 0), (none, 0, 0), (none, 0, 0), false, (none, 0, 0)⟩ : Sv))) := hid (TeSf.fin (m := (⟨13, ⟨#[]⟩, nm1, [], [], [], [], ⟨#[]⟩, [], [], [], false⟩, [])) (hU2.trans hE) { IsS.zero _ _ 13 with nm := rfl } (RowIs.nil _ _ _) (.inr (.inr (.inr (.inr (.inr (.inr (.inl ⟨nm1, hnm, rfl⟩))))))) (Nat.le_trans hl3 hl2) hp3 hgl HX.out)
  clear hRf HV hE hp3 hp2 hU2 hR2 hnm g0 g1 g2 g3 g4 g5
  unfold set13 at T
  unfold stV at T
  dsimp only at T
  go_wp2
  refine bodyPost_ret (v := stV (⟨13, ⟨#[]⟩, nm1, (none, 0, 0), (none, 0, 0), (none, 0, 0), (none, 0, 0), ⟨#[]⟩, (none, 0, 0), (none, 0, 0), (none, 0, 0), false, (none, 0, 0)⟩ : Sv)) (by simp [results, Tryz.results11, go_sem, stV, d0, d1, d2, d3, d4, d5, d6, d7, d8, d9, d10, d11, d12]) rfl ?_
  exact T.out

end Go.Proofs.YtnboooaockgoiaaGreatDoor
namespace Go.Proofs.YtnboooaockgoiaaGreatDoor
open Go.RowKit
set_option linter.unusedVariables false
set_option linter.unusedSimpArgs false

set_option maxRecDepth 100000 in
set_option maxHeartbeats 20000000 in
theorem playStmt_7 {g r : Nat} {w : World} (h : Pk w g r) (hk : 7 ≤ nxP (w.alloc zSt) g 14) : Calls Tryz.prog 11 #[.pointer (some ⟨g, 0, none⟩)] w (TeSf g r w StOK) := by
  have hgl := h.lt
  have hR0 : Bs (w.alloc zSt) w.heap.size (zS 0) := Bs.new w (zS 0)
  have hU0 : But g w (w.alloc zSt) := (But.refl g w).alloc _
  have hp0 := h.alloc zSt
  have HN : Hid _ := hid (num_exact hp0 14 (by decide) (by decide))
  clear h
  go_enter Tryz.func11, Tryz.ntmps11
  go_wp2_with fail
  refine Calls.mono HN.out ?_
  rintro e w2 ⟨r2, rfl, hk14, hl, hp2, hb2⟩
  generalize nxP (w.alloc zSt) g 14 = k at *
  have hU2 := hU0.trans hb2
  have hR2 := hR0.but hb2 (by omega)
  have hl2 := hl.1
  have HX : Hid (w.heap.size = w.heap.size) := hid rfl
  clear HN hU0 hR0 hp0 hb2 hl
  generalize hzz : w.heap.size = z at hR2 hgl HX ⊢
  replace HX : Hid (z = w.heap.size) := hid hzz.symm
  clear hzz
  have hzl2 := hR2.lt
  have g0 : ((k : Int) == 0) = false := by simp; omega
  have g1 : ((k : Int) == 1) = false := by simp; omega
  have g2 : ((k : Int) == 2) = false := by simp; omega
  have g3 : ((k : Int) == 3) = false := by simp; omega
  have g4 : ((k : Int) == 4) = false := by simp; omega
  have g5 : ((k : Int) == 5) = false := by simp; omega
  have g6 : ((k : Int) == 6) = false := by simp; omega
  have HD : Hid _ := hid (playData_any hp2)
  go_wp2_with fail
  refine Calls.mono HD.out ?_
  rintro e u ⟨s, m, r3, rfl, hm, hl3, hp3, hE, hI, hinn⟩
  obtain ⟨sk, stb, snm, sco, sta, sva, sit, sjn, son, swh, sod, sds, sinn⟩ := s
  replace hinn : sinn = (none, 0, 0) := hinn
  subst hinn
  have hRf : Bs u z (zS 0) := hR2.but hE (by omega)
  have cR := hRf.cells
  have fR := hRf.free
  have hzlf := hRf.lt
  have d0 := cR.1
  have d1 := cR.2.1
  have d2 := cR.2.2.1
  have d3 := cR.2.2.2.1
  have d4 := cR.2.2.2.2.1
  have d5 := cR.2.2.2.2.2.1
  have d6 := cR.2.2.2.2.2.2.1
  have d7 := cR.2.2.2.2.2.2.2.1
  have d8 := cR.2.2.2.2.2.2.2.2.1
  have d9 := cR.2.2.2.2.2.2.2.2.2.1
  have d10 := cR.2.2.2.2.2.2.2.2.2.2.1
  have d11 := cR.2.2.2.2.2.2.2.2.2.2.2.1
  have d12 := cR.2.2.2.2.2.2.2.2.2.2.2.2
  have f0 := fR.1
  have f1 := fR.2.1
  have f2 := fR.2.2.1
  have f3 := fR.2.2.2.1
  have f4 := fR.2.2.2.2.1
  have f5 := fR.2.2.2.2.2.1
  have f6 := fR.2.2.2.2.2.2.1
  have f7 := fR.2.2.2.2.2.2.2.1
  have f8 := fR.2.2.2.2.2.2.2.2.1
  have f9 := fR.2.2.2.2.2.2.2.2.2.1
  have f10 := fR.2.2.2.2.2.2.2.2.2.2.1
  have f11 := fR.2.2.2.2.2.2.2.2.2.2.2.1
  have f12 := fR.2.2.2.2.2.2.2.2.2.2.2.2
  clear cR fR
  have T : Hid (TeSf g r w StOK (.returned (stV (⟨sk, stb, snm, sco, sta, sva, sit, sjn, son, swh, sod, sds, (none, 0, 0)⟩ : Sv))) (set13 u z (⟨sk, stb, snm, sco, sta, sva, sit, sjn, son, swh, sod, sds, (none, 0, 0)⟩ : Sv))) := hid (TeSf.fin (m := (m, [])) (hU2.trans hE) (hI.mono fun b hb _ => by omega) (RowIs.nil _ _ _) (.inr (.inr (.inr (.inr (.inr (.inr (.inr ⟨m, hm, rfl⟩))))))) (Nat.le_trans hl3.1 hl2) hp3 hgl HX.out)
  clear hRf HD hE hp3 hp2 hU2 hR2 hm hI g0 g1 g2 g3 g4 g5 g6
  unfold set13 at T
  unfold stV at T
  dsimp only at T
  unfold stV
  dsimp only
  go_wp2
  refine bodyPost_ret (v := stV (⟨sk, stb, snm, sco, sta, sva, sit, sjn, son, swh, sod, sds, (none, 0, 0)⟩ : Sv)) (by simp [results, Tryz.results11, go_sem, stV, d0, d1, d2, d3, d4, d5, d6, d7, d8, d9, d10, d11, d12]) rfl ?_
  exact T.out

end Go.Proofs.YtnboooaockgoiaaGreatDoor
namespace Go.Proofs.YtnboooaockgoiaaGreatDoor
open Go.ChangeShapes Go.WideShapes Go.ChangeAt Go.RowKit
set_option linter.unusedVariables false

theorem own : ownKnob Tryz.prog.godebug = none := by kernel_rfl
theorem laidOut : laidOutB Tryz.prog = true := by kernel_rfl

/-- A slice of whole numbers that came in: nil, or a row of cells with its spare room. -/
def IsRow (k : IntKind) (w : World) (a : Option Addr) (len cap : Nat) (zs : List Int) : Prop :=
  (a = none ∧ len = 0 ∧ cap = 0 ∧ zs = []) ∨
  ∃ x, a = some x ∧ len ≤ cap ∧ cap ≤ maxLen ∧ zs.length = cap ∧ (∀ i, i < zs.length → w.cell? (x.add i) = some (.int k (zs.getD i 0))) ∧ ∀ n ∈ zs, (Lit.int k n).wf = true

theorem Rd.of_row {k : IntKind} {w : World} {a : Option Addr} {len cap : Nat} {zs : List Int} (h : IsRow k w a len cap zs) : Rd k w a len cap (zs.take len) := by
  rcases h with ⟨rfl, rfl, rfl, rfl⟩ | ⟨x, rfl, hl, hm, hz, hc, hw⟩
  · exact Rd.nil k w
  · refine ⟨by simp; omega, hl, hm, fun e => by simp at e, fun hp => ?_⟩
    obtain ⟨b, off, spot⟩ := x
    have h0 := hc 0 (by omega)
    have hspot : spot = none := by simpa [Addr.add] using World.cell?_spot h0
    subst hspot
    refine ⟨b, off, rfl, fun i hi => ?_⟩
    have hi' := hc i (by omega)
    rw [show (⟨b, off, none⟩ : Addr).add i = ⟨b, off + i, none⟩ from by simp [Addr.add]] at hi'
    rw [hi', nth, List.getElem?_take_of_lt hi, List.getD]

/-- Its numbers fit their kind. -/
theorem row_wf {k : IntKind} {w : World} {a : Option Addr} {len cap : Nat} {zs : List Int} (h : IsRow k w a len cap zs) : ∀ n ∈ zs.take len, (Lit.int k n).wf = true := by
  rcases h with ⟨rfl, rfl, rfl, rfl⟩ | ⟨x, rfl, hl, hm, hz, hc, hw⟩
  · intro n hn; simp at hn
  · exact fun n hn => hw n (List.mem_of_mem_take hn)

theorem u8_of_row {w : World} {a : Option Addr} {len cap : Nat} {zs : List Int} (h : IsRow .u8 w a len cap zs) : ∀ x ∈ zs.take len, 0 ≤ x ∧ x ≤ 255 :=
  fun x hx => bounds_u8 (row_wf h x hx)

/-- A byte that came in. -/
theorem u8_is {a : Int} (h : (Lit.int .u8 a).wf = true) : ∃ x : UInt8, a = (x.toNat : Int) := by
  have := bounds_u8 h
  refine ⟨UInt8.ofNat a.toNat, ?_⟩
  rw [UInt8.toNat_ofNat']
  omega

end Go.Proofs.YtnboooaockgoiaaGreatDoor
namespace Go.Proofs.YtnboooaockgoiaaGreatDoor
open Go.RowKit
set_option linter.unusedVariables false
set_option linter.unusedSimpArgs false

theorem opT_pos : ∀ j, 0 < (opT j).size
  | 0 | 1 | 2 | 3 | 4 | 5 | 6 | 7 | 8 | 9 => by decide
  | _ + 10 => (by decide : 0 < (⟨#[111, 114]⟩ : ByteArray).size)
set_option maxRecDepth 100000 in
set_option maxHeartbeats 4000000 in
theorem part_two {x op : Nat} {p : Pay} {l r : Tr} (h5 : 5 ≤ op) (h15 : op ≤ 15) (hl : PartOK l) (hr : PartOK r) : PartOK (.node x op p l r) := by
  intro hw g v s w h he hz y hex
  have hww : WfS l ∧ WfS r := by
    obtain ⟨_, h | h | h | h⟩ := hw
    · omega
    · omega
    · omega
    · exact h.2.2
  obtain ⟨j, rfl⟩ : ∃ j, op = j + 5 := ⟨op - 5, by omega⟩
  have hj : j < 11 := by omega
  obtain ⟨b, o, c, op1, p1, a1, n1, c1, op2, p2, a2, n2, c2, rfl, hc1, hc, hb, hx, hy, hex, hey⟩ := hex.row_both hww.1.no hww.2.no
  have E : shE (.node x (j + 5) p l r) = (((((⟨#[40]⟩ ++ shE l) ++ ⟨#[32]⟩) ++ opT j) ++ ⟨#[32]⟩) ++ shE r) ++ ⟨#[41]⟩ := by
    rw [shE, if_neg (by omega), if_neg (by omega), if_neg (by omega), if_neg (by omega), Nat.add_sub_cancel]
  have hzz : s.1.length + (opT j).size + (shE l).size + (shE r).size + 4 ≤ 800000 := by
    rw [E] at hz
    simp only [ByteArray.size_append] at hz
    have e1 : (⟨#[40]⟩ : ByteArray).size = 1 := rfl
    have e2 : (⟨#[32]⟩ : ByteArray).size = 1 := rfl
    have e3 : (⟨#[41]⟩ : ByteArray).size = 1 := rfl
    omega
  have hS : puS [shE (.node x (j + 5) p l r)] s = puS [⟨#[40]⟩, shE l, ⟨#[32]⟩, opT j, ⟨#[32]⟩, shE r, ⟨#[41]⟩] s := puS_eq (by rw [E]; simp [catN, nums]) s
  rw [hS]
  have e5 : ((j + 5 : Nat) : Int) = (j : Int) + 5 := by omega
  unfold exV
  rw [e5]
  have hbx := bal (Below.refl _ w) (.cells #[.int .i64 ((j : Int) + 5), .int .i64 p.1, .int .i64 p.2.1, .string p.2.2.1, .string p.2.2.2.1, .string p.2.2.2.2, .slice (some ⟨b, o, none⟩) 2 c] 43)
  have bB : Be (w.alloc (.cells #[.int .i64 ((j : Int) + 5), .int .i64 p.1, .int .i64 p.2.1, .string p.2.2.1, .string p.2.2.2.1, .string p.2.2.2.2, .slice (some ⟨b, o, none⟩) 2 c] 43)) w.heap.size ((j : Int) + 5) p (.slice (some ⟨b, o, none⟩) 2 c) := Be.new w _ p _
  have hlt := h.lt
  have HO : Hid (∀ w1, Below w.heap.size w w1 → _) := hid fun w1 hb1 => wOfTwo_any (h.later hb1) (he.on (hb1.mono (Nat.le_of_lt hlt))) hl hr hww.1 hww.2 hb hc1 hc (hx.keep (hb1.block b hx.lt)) (hy.keep (hb1.block b hx.lt)) (hex.keep fun k _ hk => hb1.block k hk) (hey.keep fun k _ hk => hb1.block k hk) (opT_pos j) hzz
  have HV : Hid (∀ q, (slV v).ownBlock = some q → q < w.heap.size) := hid fun q e => (h.blk q e).2
  generalize puS [⟨#[40]⟩, shE l, ⟨#[32]⟩, opT j, ⟨#[32]⟩, shE r, ⟨#[41]⟩] s = Z at *
  have HN : Hid (∀ w1 : World, Calls Tryz.prog 83 #[.int .i64 ((j : Int) + 5)] w1 fun e w' => e = .returned (.string (opT j)) ∧ Below w1.heap.size w1 w') := hid fun w1 => between_any w1 j hj
  have n1 : ((j : Int) + 5 == 1) = false := by simp; omega
  generalize opT j = So at *
  clear h he hx hy hex hey E hS hzz hz hw hww hl hr e5 h5 h15 hb
  go_enter Tryz.func45, Tryz.ntmps45
  go_upto_region 2 with fail
  generalize w.alloc (.cells #[.int .i64 ((j : Int) + 5), .int .i64 p.1, .int .i64 p.2.1, .string p.2.2.1, .string p.2.2.2.1, .string p.2.2.2.2, .slice (some ⟨b, o, none⟩) 2 c] 43) = W at *
  have hqW : w.heap.size < W.heap.size := bB.lt
  have HU : Hid (∀ w', WUp g v W w' → WUp g v w w') := hid fun w' hu => (WUp.of hbx).trans hu (WKp.refl _ _)
  have HS : Hid (∀ {v' : Sl} {n : Nat}, W.heap.size ≤ n → WKp v v' n → WKp v v' w.heap.size) := hid fun hn hk => (WKp.refl v w.heap.size).trans hk (by omega)
  have HO2 : Hid (∀ w1, Below W.heap.size W w1 → _) := hid fun w1 hb => HO.out w1 (Below.on hbx hb)
  clear HO hbx
  have HK : Hid (∀ w', WUp g v W w' → w'.cell? ⟨w.heap.size, 0, none⟩ = some (.int .i64 ((j : Int) + 5)) ∧ w'.cell? ⟨w.heap.size, 6, none⟩ = some (.slice (some ⟨b, o, none⟩) 2 c)) := hid fun w' hu => by
    have e := hu.block w.heap.size hqW (by omega) (fun e => by have := HV.out _ e.symm; omega)
    have k := bB.cells.keep e
    exact ⟨k.1, k.2.2.2.2.2.2⟩
  generalize hqa : w.heap.size = qa at *
  clear bB HV
  have hC : Below W.heap.size W W.drew := (Below.refl _ W).drew
  have hD : WUp g v W W.drew := WUp.of hC
  have hT : True := trivial
  go_region_held3 (fun w' => w'.cell? ⟨qa, 0, none⟩ = some (.int .i64 ((j : Int) + 5)) ∧ w'.cell? ⟨qa, 6, none⟩ = some (.slice (some ⟨b, o, none⟩) 2 c)) (exact HK.out _ hD)
    (first
    | (go_at_call 83; (with_reducible refine Calls.mono (HN.out _) ?_); rintro e z1 ⟨rfl, hb1⟩; replace hC := Below.on hC hb1; replace hD : WUp g v W _ := WUp.of hC; clear hb1)
    | (go_at_call 82; (with_reducible refine Calls.mono (HO2.out _ hC) ?_); rintro e z2 ⟨v2, rfl, hW2, hU2, hK2⟩; replace hD := hD.trans hU2 (WKp.refl _ _); replace hK2 := HS.out hC.size hK2; clear hU2; replace hW2 : Hid _ := hid hW2))
  all_goals
    go_wp2
    exact bodyPost_end (results_none rfl _ _ _) rfl ⟨v2, rfl, hW2.out, HU.out _ hD, by rw [hqa]; exact hK2⟩
theorem part_any (t : Tr) : PartOK t := by
  induction t with
  | nil => intro h; exact h.elim
  | node x op p l r ihl ihr =>
    intro hw
    obtain ⟨_, ⟨h, _⟩ | h | ⟨h, _⟩ | ⟨h5, h15, _⟩⟩ := id hw
    · exact part_leaf (.inl h) hw
    · exact part_leaf (.inr h) hw
    · exact part_one h ihl hw
    · exact part_two h5 h15 ihl ihr hw

end Go.Proofs.YtnboooaockgoiaaGreatDoor
