import Derived.Test.YtnlaaejdianfjaaGreatQfah
import Derived.Test.YtnlaaejdianfjaaGreatQfag
import Derived.Test.YtnlaaejdianfjaaGreatQfai
namespace Go.Proofs.YtnlaaejdianfjaaGreat
open Go.RowKit Go.Shelf
set_option linter.unusedVariables false
set_option linter.unusedSimpArgs false
attribute [local go_sem] Oper.semAt_some

/-- The rows for which it holds, up to the first error. -/
def fndP (hol : List Vt → Bool × Int) : List (List Vt) → List (List Vt) × Int
  | [] => ([], 0)
  | r :: l => if (hol r).2 ≠ 0 then ([], (hol r).2) else if (hol r).1 then (r :: (fndP hol l).1, (fndP hol l).2) else fndP hol l
def fndN (F : List (List Vt) × Int) : Nat := F.1.length + if F.2 ≠ 0 then 1 else 0
/-- What is told: the rows, then the error. -/
def A2 (n0 : Nat) (F : List (List Vt) × Int) (k s : Nat) (W : World) (xs : Array Value) : Prop :=
  (∃ a n c r, xs = #[.slice a n c, .int .i64 0] ∧ F.1[k]? = some r ∧ RowIs eVal (fun b => b < n0 ∨ s ≤ b) W (.slice a n c) r) ∨ (k = F.1.length ∧ F.2 ≠ 0 ∧ xs = #[.slice none 0 0, .int .i64 F.2])
theorem A2.on {n0 : Nat} {F : List (List Vt) × Int} {k s s' : Nat} {W W' : World} {xs : Array Value} (h : A2 n0 F k s W xs) (hs : s' ≤ s) (hg : Gr 0 W W') : A2 n0 F k s' W' xs ∧ xs.size = 2 := by
  rcases h with ⟨a, n, c, r, rfl, h1, h2⟩ | ⟨h1, h2, rfl⟩
  · exact ⟨.inl ⟨a, n, c, r, rfl, h1, (rowV_gr hg h2).mono (by decide) fun b hq _ => hq.imp id (fun x => Nat.le_trans hs x)⟩, rfl⟩
  · exact ⟨.inr ⟨h1, h2, rfl⟩, rfl⟩
/-- The condition, asked of any of these rows. -/
def HolC (w0 : World) (vin vwh : Value) (Rs : List (List Vt)) (hol : List Vt → Bool × Int) : Prop :=
  ∀ (W : World) (r : List Vt) (a : Option Addr) (n c : Nat), Below w0.heap.size w0 W → r ∈ Rs → RowIs eVal (fun _ => True) W (.slice a n c) r → Calls Tryz.prog 63 #[vin, .slice a n c, vwh] W fun e w' => e = .returned (.tuple #[.bool (hol r).1, .int .i64 (hol r).2]) ∧ Below W.heap.size W w'
set_option maxRecDepth 100000 in
set_option maxHeartbeats 4000000 in
theorem such1_any {w0 : World} {b1 b2 b3 gf : Nat} {lb : Array Value} {ia : Option Addr} {iN ic : Nat} {wa : Option Addr} {wn wc : Nat} {Rs : List (List Vt)} {hol : List Vt → Bool × Int}
    (c1 : w0.cell? ⟨b1, 0, none⟩ = some (.func (.func gf) #[] lb)) (c2 : w0.cell? ⟨b2, 0, none⟩ = some (.slice ia iN ic)) (c3 : w0.cell? ⟨b3, 0, none⟩ = some (.slice wa wn wc))
    (eg : ∀ args w, (callFunc gf args).run Tryz.prog w = .ok (.enter gf args) w) (hs : SeqW Tryz.prog gf lb Rs.length (A1 w0.heap.size Rs) w0) (hh : HolC w0 (.slice ia iN ic) (.slice wa wn wc) Rs hol) :
    SeqW Tryz.prog 62 #[.pointer (some ⟨b1, 0, none⟩), .pointer (some ⟨b2, 0, none⟩), .pointer (some ⟨b3, 0, none⟩)] (fndN (fndP hol Rs)) (A2 w0.heap.size (fndP hol Rs)) w0 := by
  intro l J Jx W hW hY h0
  have hw := bal hW (.cells #[.func (.yield l) #[] #[]] 124)
  have bY := Bk.new W (.cells #[.func (.yield l) #[] #[]] 124)
  have hWX : Below W.heap.size W (W.alloc (.cells #[.func (.yield l) #[] #[]] 124)) := bal (Below.refl _ _) _
  have d1 := cell_later hw c1
  have HY : Hid _ := hid hY
  have HH : Hid _ := hid hh
  have HC2 : Hid (∀ w', Below w0.heap.size w0 w' → w'.cell? ⟨b2, 0, none⟩ = some (.slice ia iN ic) ∧ w'.cell? ⟨b3, 0, none⟩ = some (.slice wa wn wc)) := hid fun w' hb => ⟨cell_later hb c2, cell_later hb c3⟩
  obtain ⟨F, hF⟩ : ∃ F, fndP hol Rs = F := ⟨_, rfl⟩
  rw [hF] at HY ⊢
  have HF : Hid _ := hid hF
  have hw0 : w0.heap.size ≤ W.heap.size := hW.size
  clear hY hh c1 c2 c3 hF
  refine (callsIn_wide (n := 0)).1 (callsIn_of_wp_marks Tryz.func62 rfl trivial ?_ rfl)
  simp only [Tryz.ntmps62, List.size_toArray, List.length_cons, List.length_nil, Nat.reduceAdd, Nat.reduceSub, Array.replicate_succ, Array.replicate_zero, List.push_toArray, List.append_toArray, List.nil_append, List.cons_append]
  gi_wp2
  generalize hWX2 : W.alloc (.cells #[.func (.yield l) #[] #[]] 124) = WX at *
  obtain ⟨by_, hby⟩ : ∃ b, W.heap.size = b := ⟨_, rfl⟩
  have hbX : by_ ≤ WX.heap.size := by rw [← hby]; exact hWX.size
  rw [hby] at bY
  have H0 : Hid (J 0 W) := hid h0
  have hbs : W.heap.size ≤ WX.heap.size := hWX.size
  have HGX : Hid (Gr W.heap.size W WX) := hid (Gr.of_below hWX)
  clear hWX h0 hWX2
  refine range_any (gf := gf) (lb := lb) (N := Rs.length) (A := A1 w0.heap.size Rs) (w0 := w0) rfl eg hs hw (fun h h1 h2 => A1.on h h1 h2)
    (fun k V => ∃ (P : List (List Vt)) (V1 : World), F.1 = P ++ (fndP hol (Rs.drop k)).1 ∧ F.2 = (fndP hol (Rs.drop k)).2 ∧ J P.length V1 ∧ Gr W.heap.size V1 V ∧ Below w0.heap.size w0 V ∧ Bk V by_ (.cells #[.func (.yield l) #[] #[]] 124))
    (fun c k V => c = .ret ∧ Below w0.heap.size w0 V ∧ ∃ V1, Gr W.heap.size V1 V ∧ (J (fndN F) V1 ∨ ∃ j, j ≤ fndN F ∧ Jx j V1))
    ⟨[], W, by rw [List.drop_zero, HF.out]; rfl, by rw [List.drop_zero, HF.out], H0.out, HGX.out, hw, bY⟩
    (fun xs => { tmps := #[.func (.yield l) #[] #[], .pointer (some ⟨b1, 0, none⟩), .pointer (some ⟨b2, 0, none⟩), .pointer (some ⟨b3, 0, none⟩), .pointer (some ⟨by_, 0, none⟩), xs[0]!, undef, undef, .func (.func gf) #[] lb, xs[0]!, undef, undef, undef, undef, undef, undef, undef, undef, undef, undef, undef, undef, undef, undef, undef, undef, undef, undef, undef], defers := [] }) ?has ?bo ?done ?stop
  case has =>
    rintro l2 xs W2 K ⟨k, s, V, a, n, c, r, rfl, -, -⟩ hK
    gi_wp2
    exact hK
  case bo =>
    rintro l2 k V Wr xs hk ⟨P, V1, hF1, hF2, hJ, hG1, hbV, hbk⟩ hG hbW ⟨a, n, c, r, rfl, hr, hrow⟩
    have cy : Wr.cell? ⟨by_, 0, none⟩ = some (.func (.yield l) #[] #[]) := (hG.cell (hbk.cell 0)).1
    obtain ⟨c2, c3⟩ := HC2.out Wr hbW
    have hkr := (List.getElem?_eq_some_iff.1 hr)
    obtain ⟨hkl, hkr⟩ := hkr
    have hdr : Rs.drop k = r :: Rs.drop (k + 1) := by rw [List.drop_eq_getElem_cons hkl, hkr]
    have HHr := HH.out Wr r a n c hbW (hkr ▸ List.getElem_mem hkl) (hrow.mono (by decide) fun _ _ _ => trivial)
    obtain ⟨⟨qb, qe⟩, hq⟩ : ∃ q, hol r = q := ⟨_, rfl⟩
    rw [hq] at HHr
    replace HHr : Hid _ := hid HHr
    have HYP : Hid (∀ W2 xs, P.length < fndN F → Below w0.heap.size w0 W2 → Gr WX.heap.size V W2 → A2 w0.heap.size F P.length V1.heap.size W2 xs → _) := hid fun W2 xs h1 h2 h3 h4 => HY.out P.length V1 W2 xs h1 hJ h2 (hG1.trans (h3.mono hbs)) h4
    have HP : Hid (F.1 = P ++ (fndP hol (r :: Rs.drop (k + 1))).1 ∧ F.2 = (fndP hol (r :: Rs.drop (k + 1))).2 ∧ hol r = (qb, qe)) := hid ⟨hdr ▸ hF1, hdr ▸ hF2, hq⟩
    have HJ1 : Hid (J P.length V1 ∧ Gr W.heap.size V1 V) := hid ⟨hJ, hG1⟩
    have HRw : Hid _ := hid hrow
    have HGV : Hid _ := hid hG
    have HBk : Hid _ := hid hbk
    have hV1 : V1.heap.size ≤ V.heap.size := hG1.size
    clear hF1 hF2 hJ hG1 hbk hG hrow hdr hq hr hkr
    simp only [List.getElem!_toArray, List.getElem!_cons_zero]
    gi_wp2_with fail
    refine ⟨trivial, rfl, (CallsIn.inRound l2 (callsIn_wide.2 HHr.out)).mono ?_⟩
    rintro e W3 ⟨rfl, hb3⟩
    have cy3 := cell_later hb3 cy
    have hbW3 := hbW.trans (hb3.mono hbW.size)
    have HK3 : Hid (Kps w0.heap.size WX.heap.size Wr W3) := hid (Kps.of_below hb3 hbW.size)
    have HG3 : Hid (Gr WX.heap.size V W3) := hid (HGV.out.trans (Gr.of_below hb3))
    have HR3 : Hid (RowIs eVal (fun b => b < w0.heap.size ∨ V1.heap.size ≤ b) W3 (.slice a n c) r) := hid ((rowV_gr (B := 0) (Gr.of_below hb3) HRw.out).mono (by decide) fun b hq _ => hq.imp id fun x => Nat.le_trans hV1 x)
    clear HHr hb3 cy HRw
    by_cases h0 : qe = 0
    · subst h0
      cases qb with
      | false =>
        have HE : Hid (F.1 = P ++ (fndP hol (Rs.drop (k + 1))).1 ∧ F.2 = (fndP hol (Rs.drop (k + 1))).2) := hid (by
          have h := HP.out
          rw [fndP, h.2.2, if_neg (by simp), if_neg (by simp)] at h
          exact ⟨h.1, h.2.1⟩)
        gi_wp2
        refine ⟨fun _ h => (by cases h), ?_⟩
        gi_wp2
        exact ⟨HK3.out, P, V1, HE.out.1, HE.out.2, HJ1.out.1, HJ1.out.2.trans (HG3.out.mono hbs), hbW3, ⟨HG3.out.block _ _ HBk.out.row (.inr rfl)⟩⟩
      | true =>
        have HE : Hid (F.1 = (P ++ [r]) ++ (fndP hol (Rs.drop (k + 1))).1 ∧ F.2 = (fndP hol (Rs.drop (k + 1))).2) := hid (by
          have h := HP.out
          rw [fndP, h.2.2, if_neg (by simp), if_pos rfl] at h
          exact ⟨by rw [h.1, List.append_assoc]; rfl, h.2.1⟩)
        have hlt : P.length < fndN F := by
          unfold fndN
          rw [HE.out.1, List.length_append, List.length_append]; simp; omega
        have HPn : Hid (P.length + 1 ≤ fndN F) := hid hlt
        obtain ⟨fn, tmps, assign, body, hy, hR⟩ := HYP.out W3 #[.slice a n c, .int .i64 0] hlt hbW3 HG3.out (.inl ⟨a, n, c, r, rfl, by rw [HE.out.1, List.append_assoc, List.getElem?_append_right (Nat.le_refl _), Nat.sub_self]; rfl, HR3.out⟩)
        have HR : Hid _ := hid hR
        clear hR hlt
        gi_wp2
        refine ⟨rfl, HR.out.mono ?_⟩
        rintro e' W4 ⟨hk4, ⟨rfl, hJ4⟩ | ⟨rfl, hJ4⟩⟩
        · have HK4 : Hid _ := hid hk4
          have HJ4 : Hid _ := hid hJ4
          clear hk4 hJ4 HR
          gi_wp2
          exact ⟨HK3.out.trans (HK4.out.mono (Nat.le_refl _) hbs), P ++ [r], W4, HE.out.1, HE.out.2, by rw [List.length_append]; exact HJ4.out, Gr.refl _ _, hbW3.trans HK4.out.low, ⟨HK4.out.oth _ _ (Nat.le_of_eq hby) (HG3.out.block _ _ HBk.out.row (.inr rfl)) rfl⟩⟩
        · have HK4 : Hid _ := hid hk4
          have HJ4 : Hid _ := hid hJ4
          clear hk4 hJ4 HR
          gi_wp2
          exact ⟨HK3.out.trans (HK4.out.mono (Nat.le_refl _) hbs), rfl, hbW3.trans HK4.out.low, W4, Gr.refl _ _, .inr ⟨_, HPn.out, HJ4.out⟩⟩
    · have HE : Hid (F.1 = P ∧ F.2 = qe) := hid (by
        have h := HP.out
        rw [fndP, h.2.2, if_pos h0] at h
        exact ⟨by rw [h.1]; simp, h.2.1⟩)
      have HN : Hid (fndN F = P.length + 1) := hid (by unfold fndN; rw [HE.out.1, HE.out.2, if_pos h0])
      obtain ⟨fn, tmps, assign, body, hy, hR⟩ := HYP.out W3 #[.slice none 0 0, .int .i64 qe] (by rw [HN.out]; omega) hbW3 HG3.out (.inr ⟨by rw [HE.out.1], by rw [HE.out.2]; exact h0, by rw [HE.out.2]⟩)
      have HR : Hid _ := hid hR
      have h0' : (qe != 0) = true := by simpa using h0
      have h0d : decide (qe = 0) = false := by simpa using h0
      clear hR
      gi_wp2
      refine ⟨rfl, HR.out.mono ?_⟩
      rintro e' W4 ⟨hk4, ⟨rfl, hJ4⟩ | ⟨rfl, hJ4⟩⟩
      · have HK4 : Hid _ := hid hk4
        have HJ4 : Hid _ := hid hJ4
        clear hk4 hJ4 HR
        gi_wp2
        exact ⟨HK3.out.trans (HK4.out.mono (Nat.le_refl _) hbs), rfl, hbW3.trans HK4.out.low, W4, Gr.refl _ _, .inl (by rw [HN.out]; exact HJ4.out)⟩
      · have HK4 : Hid _ := hid hk4
        have HJ4 : Hid _ := hid hJ4
        clear hk4 hJ4 HR
        gi_wp2
        exact ⟨HK3.out.trans (HK4.out.mono (Nat.le_refl _) hbs), rfl, hbW3.trans HK4.out.low, W4, Gr.refl _ _, .inr ⟨_, by rw [HN.out]; exact Nat.le_refl _, HJ4.out⟩⟩
  case done =>
    rintro D V Wd hD ⟨P, V1, hF1, hF2, hJ, hG1, hbV, hbk⟩ hG hbW hdf
    have HEnd : Hid (∃ W1, Gr W.heap.size W1 (Wd.putObj D (.deferred none)) ∧ (J (fndN F) W1 ∨ ∃ j, j ≤ fndN F ∧ Jx j W1)) := hid (by
      rw [List.drop_length] at hF1 hF2
      refine ⟨V1, (hG1.trans (hG.mono hbs)).put _ (Nat.le_trans hbs hD) hdf rfl, .inl ?_⟩
      unfold fndN
      rw [hF1, hF2]
      simpa [fndP] using hJ)
    have HB : Hid (Below w0.heap.size w0 (Wd.putObj D (.deferred none))) := hid (hbW.trans (kps_put Wd _ (Nat.le_trans hw.size hD) hdf))
    clear hF1 hF2 hJ hG1 hbk hG
    gi_wp2
    refine ⟨by simp, .inl ⟨_, _, rfl, run_takeDeferred hdf, ?_⟩⟩
    exact ⟨_, results_none rfl _ _ _, ⟨_, rfl⟩, HB.out, HEnd.out⟩
  case stop =>
    rintro D c k V Wd hD hk ⟨rfl, hbV, V1, hG1, hor⟩ hG hbW hdf
    have HEnd : Hid (∃ W1, Gr W.heap.size W1 (Wd.putObj D (.deferred none)) ∧ (J (fndN F) W1 ∨ ∃ j, j ≤ fndN F ∧ Jx j W1)) := hid ⟨V1, (hG1.trans (hG.mono hbs)).put _ (Nat.le_trans hbs hD) hdf rfl, hor⟩
    have HB : Hid (Below w0.heap.size w0 (Wd.putObj D (.deferred none))) := hid (hbW.trans (kps_put Wd _ (Nat.le_trans hw.size hD) hdf))
    clear hG1 hor hG
    gi_wp2
    refine ⟨by simp, .inl ⟨_, _, rfl, run_takeDeferred hdf, ?_⟩⟩
    exact ⟨_, results_none rfl _ _ _, ⟨_, rfl⟩, HB.out, HEnd.out⟩

end Go.Proofs.YtnlaaejdianfjaaGreat
namespace Go.Proofs.YtnlaaejdianfjaaGreat
open Go.RowKit
set_option linter.unusedVariables false
set_option linter.unusedSimpArgs false

theorem cloneL_any (s : ByteArray) (hs : s.size ≤ 281474976710656) (w : World) : Calls Tryz.prog 107 #[.string s] w fun e w' => e = .returned (.string s) ∧ Below w.heap.size w w' := by
  have H : Hid _ := Tryz.stringslite_Clone s w hs
  go_enter Tryz.func107, Tryz.ntmps107
  go_wp2_with fail
  refine Calls.mono H.out ?_
  rintro e w1 ⟨rfl, hb⟩
  clear H
  go_wp2
  go_ret
  exact ⟨rfl, hb⟩
set_option maxRecDepth 100000 in
set_option maxHeartbeats 2000000 in
theorem fresh_any (v : Vt) (hs : v.2.2.size ≤ 281474976710656) (w : World) : Calls Tryz.prog 75 #[vV v] w fun e w' => e = .returned (vV v) ∧ Below w.heap.size w w' := by
  obtain ⟨v0, v1, v2⟩ := v
  have HC : Hid (∀ w, _) := hid fun w => cloneL_any v2 hs w
  have hb := bal (bal (Below.refl w.heap.size w) (.cells #[.int .i64 v0, .int .i64 v1, .string v2] 44)) zV
  have b1 : Bv ((w.alloc (.cells #[.int .i64 v0, .int .i64 v1, .string v2] 44)).alloc zV) w.heap.size v0 v1 v2 := (⟨heap_alloc_new w _⟩ : Bv (w.alloc (.cells #[.int .i64 v0, .int .i64 v1, .string v2] 44)) w.heap.size v0 v1 v2).later (bal (Below.refl _ _) _)
  have b2 : Bv ((w.alloc (.cells #[.int .i64 v0, .int .i64 v1, .string v2] 44)).alloc zV) (w.heap.size + 1) 0 0 ⟨#[]⟩ := by
    have := Bv.new (w.alloc (.cells #[.int .i64 v0, .int .i64 v1, .string v2] 44))
    rwa [World.size_alloc] at this
  go_enter Tryz.func75, Tryz.ntmps75
  go_upto_region 1 with fail
  generalize (w.alloc (.cells #[.int .i64 v0, .int .i64 v1, .string v2] 44)).alloc zV = W at *
  obtain ⟨a0, a1, a2⟩ := b1.cells
  go_wp2_with fail
  refine Calls.mono (HC.out _) ?_
  rintro e w1 ⟨rfl, hb1⟩
  have hB := Below.on hb hb1
  clear a0 a1 a2
  obtain ⟨c0, c1, c2⟩ := (b1.later hb1).cells
  obtain ⟨d0, d1, d2⟩ := (b2.later hb1).cells
  obtain ⟨f0, f1, f2⟩ := (b1.later hb1).free
  obtain ⟨g0, g1, g2⟩ := (b2.later hb1).free
  have hl := (b2.later hb1).lt
  clear HC b1 b2 hb hb1
  go_wp2
  exact bodyPost_ret (v := vV (v0, v1, v2)) (by simp [results, Tryz.results75, go_sem, d0, d1, d2]) rfl ⟨rfl, below3 (hB.setCell (p := ⟨w.heap.size, 2, none⟩) (Nat.le_refl _) _) (by omega) _ _ _⟩

theorem TeRs.snoc {B : Nat} {w5 w6 : World} {va : Option Addr} {vm vd : Nat} {css : List (List Value)} {R : List (List Vt)} {r : List Vt} {ra : Option Addr} {rm rd : Nat} {v' : Value} (hcl : css.length = R.length)
    (hE : ∀ i (h1 : i < R.length) (h2 : i < css.length), eRow.E (fun b => B ≤ b ∧ some b ≠ (Value.slice va vm vd).ownBlock) w5 R[i] css[i]) (hEn : eRow.E (fun b => B ≤ b ∧ some b ≠ (Value.slice va vm vd).ownBlock) w5 r [.slice ra rm rd])
    (hO : OwnR 42 1 B w6 v' (css ++ [[.slice ra rm rd]])) (hg : w5.grownBy w6 (Value.slice va vm vd).ownBlock) (hown : v'.ownBlock = (Value.slice va vm vd).ownBlock ∨ v'.ownBlock = some w5.heap.size) : TeRs B w6 v' (R ++ [r]) := by
  obtain ⟨a6, m6, d6, rfl⟩ := hO.sl
  refine ⟨css ++ [[.slice ra rm rd]], hO, by simp [hcl], fun i h1 h2 => ?_⟩
  by_cases hi : i < css.length
  · rw [List.getElem_append_left hi, List.getElem_append_left (by omega)]
    exact eRow.grow (hE i (by omega) hi) hg hown
  · have hic : i = css.length := by rw [List.length_append] at h2; simp at h2; omega
    have hir : i = R.length := by omega
    rw [List.getElem_append_right (by omega), List.getElem_append_right (by omega)]
    simp only [hic, Nat.sub_self, List.getElem_cons_zero, hcl]
    exact eRow.grow hEn hg hown
theorem TeRs.later {B : Nat} {w w' : World} {v : Value} {R : List (List Vt)} (h : TeRs B w v R) (hb : Below w.heap.size w w') : TeRs B w' v R := by
  obtain ⟨css, ho, hl, hE⟩ := h
  exact ⟨css, ho.later hb, hl, fun i h1 h2 => eRow.keep (fun b _ hlt => hb.block b hlt) (hE i h1 h2)⟩
theorem TeRs.len {B : Nat} {w : World} {a : Option Addr} {m d : Nat} {R : List (List Vt)} (h : TeRs B w (.slice a m d) R) : m = R.length := by
  obtain ⟨css, ho, hl, -⟩ := h
  rw [← hl]; exact ho.lenV
abbrev cVs (v : Vt) : List Value := [.int .i64 v.1, .int .i64 v.2.1, .string v.2.2]
set_option maxRecDepth 100000 in
set_option maxHeartbeats 4000000 in
theorem copied_any {L : List (List Vt)} (hN : L.length ≤ 500) (hM : ∀ l ∈ L, l.length ≤ 500) (hs : ∀ l ∈ L, ∀ v ∈ l, v.2.2.size ≤ 281474976710656) {Q : Nat → Prop} {w : World} {a : Option Addr} {n c : Nat} (h : RowIs eRow Q w (.slice a n c) L) :
    Calls Tryz.prog 43 #[.slice a n c] w fun e w' => ∃ v, e = .returned v ∧ TeRs w.heap.size w' v L ∧ Below w.heap.size w w' := by
  obtain ⟨l1, l2, l3⟩ := row_lens h
  have HR : Hid (∀ w', Below w.heap.size w w' → RowIs eRow Q w' (.slice a n c) L) := hid fun w' hb => h.keep (by decide) fun b _ hl => hb.block b hl
  have HM : Hid _ := hid hM
  have HS : Hid _ := hid hs
  clear h hM hs
  obtain ⟨ti, ht1, ht2, ht3, ht4⟩ := info_parts Tryz.infoTRow
  obtain ⟨tj, hj1, hj2, hj3, hj4⟩ := info_parts Tryz.infoTVal
  go_enter Tryz.func43, Tryz.ntmps43
  go_upto_region 1 with fail
  go_wp2_with (first | (at_make; go_must (refine wpList_make_own w rfl _ _ 36 rfl w.heap.size 42 ti _ 1 Tryz.underlying36 ht1 ht2 ht3 .i64 .i64 (n : Int) n rfl rfl rfl (by rw [ht4]; omega) (by unfold maxLen; omega) (Nat.le_refl _) ?_)) | fail)
  intro w1 ho hg
  have hb1 : Below w.heap.size w w1 := below_grows (Below.refl _ _) (Nat.le_refl _) hg (by simp)
  have HT : Hid (TeRs w.heap.size w1 (.slice (some ⟨w.heap.size, 0, none⟩) 0 n) []) := hid ⟨[], ⟨fun cs h => by simp at h, ho⟩, rfl, fun i h1 => absurd h1 (by simp)⟩
  clear ho hg
  go_wp2
  go_loopw [3, 14] (fun v3 v14 wr => ∃ (k : Nat) (va : Option Addr) (vd : Nat), k ≤ n ∧ v14 = .int .i64 k ∧ v3 = .slice va k vd ∧ Below w.heap.size w wr ∧ Hid (TeRs w.heap.size wr (.slice va k vd) (L.take k))) (fun _ i _ => n - (intOf i).toNat)
  case atStart => exact ⟨0, _, _, Nat.zero_le _, rfl, rfl, hb1, HT⟩
  case round =>
    obtain ⟨k, va, vd, hk, rfl, rfl, hB, HK⟩ := hrel
    clear hb1 HT
    generalize wr = wo at *
    by_cases hlt : k < n
    · obtain ⟨b, o, xa, xn, xc, rfl, -, x0, rx⟩ := row1 (HR.out wo hB) (k := k) (by omega)
      obtain ⟨x, hx⟩ : ∃ x, L[k]'(by omega) = x := ⟨_, rfl⟩
      rw [hx] at rx
      obtain ⟨p1, p2, p3⟩ := row_lens rx
      have hmx : x ∈ L := hx ▸ List.getElem_mem _
      have h5x := HM.out _ hmx
      have HSx : Hid _ := hid (HS.out _ hmx)
      have HNx : Hid (L.take (k + 1) = L.take k ++ [x]) := hid (by rw [List.take_succ_eq_append_getElem (by omega), hx])
      have HRX : Hid (∀ w', Below wo.heap.size wo w' → RowIs eVal Q w' (.slice xa xn xc) x) := hid fun w' hb => rx.keep (by decide) fun b _ hl => hb.block b hl
      have hkm : (k : Int) < (n : Int) := by omega
      have hwk := wrapS hlt l2 l3
      clear rx hx hmx
      go_wp2_with (first | (at_make; go_must (refine wpList_make_own wo rfl _ _ 42 rfl wo.heap.size 44 tj _ 3 Tryz.underlying42 hj1 hj2 hj3 .i64 .i64 (xn : Int) xn rfl rfl rfl (by rw [hj4]; omega) (by unfold maxLen; omega) (Nat.le_refl _) ?_)) | fail)
      intro w2 ho hg
      have hb2 : Below wo.heap.size wo w2 := below_grows (Below.refl _ _) (Nat.le_refl _) hg (by simp)
      have HO : Hid (OwnR 44 3 wo.heap.size w2 (.slice (some ⟨wo.heap.size, 0, none⟩) 0 xn) []) := hid ⟨fun cs h => by simp at h, ho⟩
      clear ho hg x0
      go_wp2
      go_loopw [6, 23] (fun v6 v23 wz => ∃ (j : Nat) (ra : Option Addr) (rd : Nat), j ≤ xn ∧ v23 = .int .i64 j ∧ v6 = .slice ra j rd ∧ Below wo.heap.size wo wz ∧ Hid (OwnR 44 3 wo.heap.size wz (.slice ra j rd) ((x.take j).map cVs))) (fun _ i _ => xn - (intOf i).toNat)
      case atStart => exact ⟨0, _, _, Nat.zero_le _, rfl, rfl, hb2, HO⟩
      case round =>
        obtain ⟨j, ra, rd, hj, rfl, rfl, hZ, HJ⟩ := hrel
        clear hb2 HO
        by_cases hjx : j < xn
        · obtain ⟨b', o', rfl, -, c0, c1, c2⟩ := val1 (HRX.out _ hZ) (k := j) (by omega)
          obtain ⟨y, hy⟩ : ∃ y, x[j]'(by omega) = y := ⟨_, rfl⟩
          have hys := HSx.out y (hy ▸ List.getElem_mem _)
          obtain ⟨C, hC⟩ : ∃ C, (x.take j).map cVs = C := ⟨_, rfl⟩
          have HNy : Hid ((x.take (j + 1)).map cVs = C ++ [cVs y] ∧ C.length = j) := hid ⟨by rw [List.take_succ_eq_append_getElem (by omega), hy, List.map_append, hC]; rfl, by rw [← hC, List.length_map, List.length_take]; omega⟩
          rw [hC] at HJ
          clear hC
          rw [hy] at c0 c1 c2
          obtain ⟨y0, y1, y2⟩ := y
          have hjm : (j : Int) < (xn : Int) := by omega
          have hwj := wrapS hjx p2 p3
          have by1 := Bk.new wr (.cells #[.int .i64 y0, .int .i64 y1, .string y2] 44)
          have hZ1 := hZ.alloc hZ.size (.cells #[.int .i64 y0, .int .i64 y1, .string y2] 44)
          have hO1 := HJ.out.alloc (.cells #[.int .i64 y0, .int .i64 y1, .string y2] 44)
          have HF : Hid (∀ w, _) := hid fun w => fresh_any (y0, y1, y2) hys w
          clear hy
          go_upto_region 9 with fail
          generalize wr.alloc (.cells #[.int .i64 y0, .int .i64 y1, .string y2] 44) = W at *
          have d0 := by1.cell 0
          have d1 := by1.cell 1
          have d2 := by1.cell 2
          simp only [List.getElem?_toArray, List.getElem?_cons_zero, List.getElem?_cons_succ] at d0 d1 d2
          clear by1 c0 c1 c2
          have HO1 : Hid _ := hid hO1
          clear hO1
          go_wp2_with fail
          refine Calls.mono (HF.out _) ?_
          rintro e w4 ⟨rfl, hb4⟩
          have ho4 := (HO1.out.later hb4).alloc (.cells #[.int .i64 y0, .int .i64 y1, .string y2] 44)
          have hZ4 := Below.on hZ1 hb4
          have hZ5 := hZ4.alloc hZ4.size (.cells #[.int .i64 y0, .int .i64 y1, .string y2] 44)
          have hB5 : wo.heap.size ≤ (w4.alloc (.cells #[.int .i64 y0, .int .i64 y1, .string y2] 44)).heap.size := hZ5.size
          have hblk := ho4.blk
          have hcl := HNy.out.2
          clear HF HO1 hZ1 hb4 d0 d1 d2 hZ4
          go_wp2_with (first | (at_builtin; go_must (refine wpList_appR Tryz.underlying42 Tryz.infoTVal rfl (by decide) (by decide) rfl (.tmp 27) (.tmp 30) rfl _ _ w4.heap.size [.int .i64 y0, .int .i64 y1, .string y2] rfl rfl ho4 rfl (by simp [Value.oneCell']) (new3 w4 _ _ _ _) (by omega) hB5 ?_)) | fail)
          intro v' w6 hO6 hg6 hown
          have hZ6 := below_grows hZ5 hB5 hg6 fun k e => (hblk k e).1
          obtain ⟨a2, m2, d2, rfl⟩ := hO6.sl
          have hm2 : m2 = j + 1 := by
            have h9 := hO6.lenV
            simp at h9
            omega
          have HO6 : Hid (OwnR 44 3 wo.heap.size w6 (.slice a2 m2 d2) ((x.take (j + 1)).map cVs)) := hid (by rw [HNy.out.1]; exact hO6)
          clear hg6 hown ho4 hZ5 hblk hO6 hcl HNy
          subst hm2
          go_wp2
          go_roundw
          case rel => exact ⟨j + 1, a2, d2, by omega, by go_num, rfl, hZ6, HO6⟩
          case measure => simp only [intOf]; omega
        · obtain rfl : j = xn := by omega
          have HO6 : Hid (OwnR 44 3 wo.heap.size wr (.slice ra j rd) (x.map cVs)) := hid (by
            have := HJ.out
            rwa [← p1, List.take_length, p1] at this)
          have hblk3 : ∀ b, (Value.slice va k vd).ownBlock = some b → b < wo.heap.size := fun b e => by
            obtain ⟨css, ho, -, -⟩ := HK.out
            exact (ho.blk b e).2
          obtain ⟨css, ho, hcl, hE⟩ := HK.out.later hZ
          have hck : css.length = k := ho.lenV.symm
          have hblk := ho.blk
          have ho5 := ho.alloc (.cells #[.slice ra j rd] 42)
          have hB4 := Below.on hB hZ
          have hB5 := hB4.alloc hB4.size (.cells #[.slice ra j rd] 42)
          have hs5 : w.heap.size ≤ (wr.alloc (.cells #[.slice ra j rd] 42)).heap.size := hB5.size
          have hEn : eRow.E (fun b => w.heap.size ≤ b ∧ some b ≠ (Value.slice va k vd).ownBlock) (wr.alloc (.cells #[.slice ra j rd] 42)) x [.slice ra j rd] := ⟨ra, j, rd, rfl, ((OwnR.rowE (e := eVal) (Q := fun b => wo.heap.size ≤ b) HO6.out (by simp) (fun b hb _ => hb) fun i h1 h2 => by
            show _ = _
            simp).keep (by decide) fun b _ hl => (bal (Below.refl _ _) (.cells #[.slice ra j rd] 42)).block b hl).mono (by decide) fun b hq _ => ⟨Nat.le_trans hB.size hq, fun hbk => by have := hblk3 b hbk.symm; have hq' : wo.heap.size ≤ b := hq; omega⟩⟩
          have HEn : Hid _ := hid hEn
          have HEo : Hid (∀ i (h1 : i < (L.take k).length) (h2 : i < css.length), eRow.E (fun b => w.heap.size ≤ b ∧ some b ≠ (Value.slice va k vd).ownBlock) (wr.alloc (.cells #[.slice ra j rd] 42)) (L.take k)[i] css[i]) := hid fun i h1 h2 => eRow.keep (fun b _ hl => (bal (Below.refl _ _) (.cells #[.slice ra j rd] 42)).block b hl) (hE i h1 h2)
          have HCl : Hid _ := hid hcl
          clear hE hEn hB4 hcl ho HO6 hblk3 HK
          go_wp2_with (first | (at_builtin; go_must (refine wpList_appR Tryz.underlying36 Tryz.infoTRow rfl (by decide) (by decide) rfl (.tmp 33) (.tmp 35) rfl _ css wr.heap.size [.slice ra j rd] rfl rfl ho5 rfl (by simp [Value.oneCell']) (newV1 wr _ _) (by omega) hs5 ?_)) | fail)
          intro v' w6 hO6 hg6 hown
          obtain ⟨a6, m6, d6, rfl⟩ := hO6.sl
          have hm6 : m6 = k + 1 := by
            have h9 := hO6.lenV
            simp at h9
            omega
          have hB6 := below_grows hB5 hs5 hg6 fun b e => (hblk b e).1
          have HT6 : Hid (TeRs w.heap.size w6 (.slice a6 m6 d6) (L.take (k + 1))) := hid (by rw [HNx.out]; exact TeRs.snoc HCl.out HEo.out HEn.out hO6 hg6 (by rw [World.size_alloc]; exact hown))
          clear hO6 hg6 hown hB5 ho5 hblk HEn HEo HCl HNx hck
          subst hm6
          go_wp2
          go_roundw
          case rel => exact ⟨k + 1, a6, d6, by omega, by go_num, rfl, hB6, HT6⟩
          case measure => simp only [intOf]; omega
    · obtain rfl : k = n := by omega
      have HL : Hid (L.take k = L) := hid (by rw [← l1, List.take_length])
      go_wp2
      go_ret
      exact ⟨_, rfl, by rw [← HL.out]; exact HK.out, hB⟩

end Go.Proofs.YtnlaaejdianfjaaGreat
