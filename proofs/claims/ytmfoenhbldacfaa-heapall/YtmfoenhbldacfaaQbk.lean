import Derived.Test.YtmfoenhbldacfaaQbj
/- A heap's copy: the walk. -/
namespace Go.Proofs.Ytmfoenhbldacfaa
open Go.RowKit
set_option linter.unusedVariables false
set_option linter.unusedSimpArgs false

/-- The pages of the copy so far. -/
structure Cp (G : List (Int × (Nat × Rc))) (told : List Int) (G' : List (Int × (Nat × Rc))) : Prop where
  kg : (ks G').Nodup
  key : ∀ n, n ∈ ks G' ↔ n ∈ told
  rec0 : ∀ n g' R, (n, (g', R)) ∈ G' → ∃ g, (n, (g, R)) ∈ G
theorem Cp.back {G G' : List (Int × (Nat × Rc))} {told : List Int} (h : Cp G told G') (kg : (ks G).Nodup) (hall : ∀ x ∈ ks G, x ∈ told) {n : Int} {g : Nat} {R : Rc} (hn : (n, (g, R)) ∈ G) : ∃ g', (n, (g', R)) ∈ G' := by
  have hk := (h.key n).2 (hall n (mem_key hn))
  obtain ⟨⟨g', R'⟩, e⟩ := lk_key.1 hk
  obtain ⟨g2, e2⟩ := h.rec0 n g' R' (lk_mem e)
  have := mem_lk kg hn
  rw [mem_lk kg e2] at this
  cases this
  exact ⟨g', lk_mem e⟩
theorem Cp.done {H Hc : Hs} {told : List Int} (h : Cp H.G told Hc.G) (kg : (ks H.G).Nodup) (kp : (ks H.P).Nodup) (hall : ∀ x ∈ ks H.G, x ∈ told) (eP : Hc.P = H.P) (eF : Hc.F = H.F) (en : Hc.nx = H.nx) (hp : HP H none) (hW : HW H none) : HP Hc none ∧ HW Hc none ∧ ∀ j, rcd Hc j = rcd H j := by
  refine ⟨⟨fun n g R e => ?_, fun n g R e => ?_, fun n g R e _ => ?_, by rw [eF]; exact hp.srt, fun r n e => ?_, fun n g R e _ hr => ?_⟩, ⟨fun id n s e _ => ?_, fun id id' n s e e' _ _ => ?_, fun n g R s e hs => ?_⟩, fun j => ?_⟩
  · obtain ⟨g2, e2⟩ := h.rec0 _ _ _ e
    rw [en]; exact hp.rng _ _ _ e2
  · obtain ⟨g2, e2⟩ := h.rec0 _ _ _ e
    exact hp.tm _ _ _ e2
  · obtain ⟨g2, e2⟩ := h.rec0 _ _ _ e
    exact hp.ne _ _ _ e2 (by simp)
  · rw [eF] at e
    obtain ⟨g, R, e1, e2⟩ := hp.fre r n e
    obtain ⟨g', e3⟩ := h.back kg hall e1
    exact ⟨g', R, e3, e2⟩
  · obtain ⟨g2, e2⟩ := h.rec0 _ _ _ e
    rw [eF]; exact hp.fre' _ _ _ e2 (by simp) hr
  · rw [eP] at e
    obtain ⟨g, R, e1, e2⟩ := hW.ln id n s e (by simp)
    obtain ⟨g', e3⟩ := h.back kg hall e1
    exact ⟨g', R, e3, e2⟩
  · rw [eP] at e e'
    exact hW.on id id' n s e e' (by simp) (by simp)
  · obtain ⟨g2, e2⟩ := h.rec0 _ _ _ e
    obtain ⟨id, e3, _⟩ := hW.al _ _ _ _ e2 hs
    exact ⟨id, by rw [eP]; exact e3, by simp⟩
  · cases e : lk H.P j with
    | none => rw [rcd_none e, rcd_none (by rw [eP]; exact e)]
    | some p =>
      obtain ⟨n, s⟩ := p
      obtain ⟨g, R, e1, e2⟩ := hW.ln j n s (lk_mem e) (by simp)
      obtain ⟨g', e3⟩ := h.back kg hall e1
      rw [rcd_at kp kg (lk_mem e) e1, rcd_at (H := Hc) (by rw [eP]; exact kp) h.kg (by rw [eP]; exact lk_mem e) e3]
theorem Cp.more {G G' : List (Int × (Nat × Rc))} {told : List Int} (h : Cp G told G') {n : Int} {g g' : Nat} {R : Rc} (hn : (n, (g, R)) ∈ G) (ht : n ∉ told) : Cp G (told ++ [n]) (up G' n (g', R)) := by
  have hk : n ∉ ks G' := fun e => ht ((h.key n).1 e)
  refine ⟨up_nodup h.kg _ _, fun m => ?_, fun m g2 R2 e => ?_⟩
  · rw [ks_up, if_neg hk]
    simp only [List.mem_append, List.mem_singleton, h.key m]
  · rcases (mem_up h.kg).1 e with e | ⟨e, _⟩
    · cases e; exact ⟨g, hn⟩
    · exact h.rec0 _ _ _ e

theorem nh_iter {m : Option Nat} {s : Nat} {seen : Array Nat} {c : Nat} : ¬ Hy (.mapIter m s seen c) := by
  rintro (⟨A', e⟩ | ⟨es, c, e⟩ | ⟨A', e⟩ | ⟨A', e⟩) <;> cases e
theorem range_none (w : World) : (Instr.range 43 (.map none)).run Try.prog w = .ok (.pointer (some ⟨w.heap.size, 0, none⟩)) (w.alloc (.mapIter none 0 #[] 0)) := by kernel_rfl
theorem next_none {w : World} {r : Nat} {s : Nat} {seen : Array Nat} {c : Nat} (h : w.heap[r]? = some (.mapIter none s seen c)) (ty : TypeId) : (Instr.next (.pointer (some ⟨r, 0, none⟩)) false ty).run Try.prog w = .ok (.tuple #[.bool false]) w := by
  have hg : (getObj r).run Try.prog w = .ok (.mapIter none s seen c) w := by simp [getObj, Sem.run, h]
  simp [Instr.next, hg]
set_option maxRecDepth 100000 in
set_option maxHeartbeats 2000000 in
theorem hcopy_any {B : Nat} {w : World} {hb : Nat} {M : Int → Option (List Int)} {N k : Nat} (h : HA B w hb M N k) (hN : N ≤ 700) :
    Calls Try.prog 13 #[.pointer (some ⟨hb, 0, none⟩)] w fun e w' => ∃ hb', e = .returned (.pointer (some ⟨hb', 0, none⟩)) ∧ HA w.heap.size w' hb' M N k ∧ Below w.heap.size w w' := by
  obtain ⟨H, rfl, hI, hp, hW, hM, hlen, hnx⟩ := h.ex
  have hfew := pages_few hp hW hI.kg
  have hfewF := hp.few hI.kg
  obtain ⟨ao, c, hfv, hc1, hc2, -⟩ := hI.fr.cells
  have HM : Hid (∀ w1, Below w.heap.size w w1 → Calls Try.prog 24 #[.map H.pm] w1 fun e w' => (∃ ob', e = .returned (.map ob') ∧ MapO w.heap.size w' ob' .u64 plV H.P) ∧ Below w1.heap.size w1 w') := fun w1 k1 => by
    refine Calls.mono (mclone_any (hI.later k1).pl) ?_
    rintro e w' ⟨⟨ob', rfl, h1⟩, h2⟩
    refine ⟨⟨ob', rfl, h1.imp id ?_⟩, h2⟩
    rintro ⟨b, e1, e2, e3⟩
    exact ⟨b, e1, Nat.le_trans k1.size e2, e3⟩
  have HG : Hid (∀ w1, Below w.heap.size w w1 → Calls Try.prog 25 #[.slice ao H.F.length c] w1 fun e w' => (∃ a2 c2, e = .returned (.slice a2 H.F.length c2) ∧ OwnG w.heap.size w' (.slice a2 H.F.length c2) H.F) ∧ Below w1.heap.size w1 w') := fun w1 k1 => by
    refine Calls.mono (gclone_any (w := w1) (by rw [← hfv]; exact (hI.later k1).fr) (by omega)) ?_
    rintro e w' ⟨⟨v', rfl, h1⟩, h2⟩
    obtain ⟨a2, c2, rfl, -⟩ := h1.cells
    refine ⟨⟨a2, c2, rfl, ?_⟩, h2⟩
    rcases h1.parts with ⟨e1, e2⟩ | ⟨g, cap, cur, e1, e2, r⟩
    · rw [e1, e2]; exact OwnG.nil _ _
    · rw [e1]; exact OwnG.mk (Nat.le_trans k1.size e2) r.1 r.2.1 r.2.2.1 r.2.2.2.1 r.2.2.2.2
  have HC : Hid (∀ w1, Below w.heap.size w w1 → w1.cell? ⟨H.hb, 0, none⟩ = some (.map H.pm) ∧ w1.cell? ⟨H.hb, 1, none⟩ = some (.map H.gm) ∧ w1.cell? ⟨H.hb, 2, none⟩ = some (.slice ao H.F.length c) ∧ w1.cell? ⟨H.hb, 3, none⟩ = some (.int .i64 (H.nx : Int))) := fun w1 k1 => by
    obtain ⟨q0, q1, q2, q3⟩ := hI.cells
    rw [hfv] at q2
    exact ⟨bcl k1 q0, bcl k1 q1, bcl k1 q2, bcl k1 q3⟩
  -- the copy without pages
  have HZ : Hid (∀ w1 ob' v', Below w.heap.size w w1 → MapO w.heap.size w1 ob' .u64 plV H.P → OwnG w.heap.size w1 v' H.F → HI w.heap.size (w1.alloc (.cells #[.map ob', .map none, v', .int .i64 (H.nx : Int)] 46)) ⟨w1.heap.size, ob', none, v', H.nx, H.P, [], H.F⟩) := fun w1 ob' v' k1 k2 k3 => by
    have hb1 : Below w1.heap.size w1 (w1.alloc (.cells #[.map ob', .map none, v', .int .i64 (H.nx : Int)] 46)) := (Below.refl _ _).alloc (Nat.le_refl _) _
    refine ⟨heap_alloc_last w1 _, k1.size, k2.keep (fun b es c _ _ e => hb1.block b (Array.getElem?_eq_some_iff.1 e).1), .inl ⟨rfl, rfl⟩, (fun b _ e => by cases e), k3.later hb1, (fun n g R e => by cases e), List.nodup_nil, List.nodup_nil, hI.kp, Nat.le_trans k1.size hb1.size⟩
  have hI0 : Hid _ := hI
  have hp0 : Hid _ := hp
  have hW0 : Hid _ := hW
  have hM0 : Hid _ := hM
  have hl0 : Hid _ := hlen
  have hn0 : Hid _ := hnx
  have C0 := HC.out w (Below.refl _ _)
  obtain ⟨N1, hN1⟩ : ∃ x, H.F.length = x := ⟨_, rfl⟩
  rw [hN1] at HG HC C0
  replace hN1 : Hid _ := hN1
  clear h hI hp hW hM hfv hc1 hc2 hfew hfewF hlen hnx
  go_enter Try.func13, Try.ntmps13
  go_upto_region 3 with fail
  have hC : Below w.heap.size w w.drew := (Below.refl _ _).drew
  go_region_held3 (fun w' => w'.cell? ⟨H.hb, 0, none⟩ = some (.map H.pm) ∧ w'.cell? ⟨H.hb, 1, none⟩ = some (.map H.gm) ∧ w'.cell? ⟨H.hb, 2, none⟩ = some (.slice ao N1 c) ∧ w'.cell? ⟨H.hb, 3, none⟩ = some (.int .i64 (H.nx : Int))) (first | exact HC.out _ hC | exact HC.out _ (hC.alloc hC.size _))
    (first
      | (go_at_call 24; refine Calls.mono (HM.out _ hC) ?_; rintro e y1 ⟨⟨ob', rfl, hO⟩, hb1⟩; replace hC := bthen hC hb1)
      | (go_at_call 25; refine Calls.mono (HG.out _ hC) ?_; rintro e y2 ⟨⟨a2, c2, rfl, hO2⟩, hb2⟩; replace hC := bthen hC hb2))
  all_goals
    have hO1 : MapO w.heap.size y2 ob' .u64 plV H.P := hO.keep (fun b es c _ _ e => hb2.block b (Array.getElem?_eq_some_iff.1 e).1)
    have hV := HZ.out y2 ob' _ hC hO1 hO2
    have hbV : Below y2.heap.size y2 (y2.alloc (.cells #[.map ob', .map none, .slice a2 N1 c2, .int .i64 (H.nx : Int)] 46)) := (Below.refl _ _).alloc (Nat.le_refl _) _
    have hCV := bthen hC hbV
    generalize (y2.alloc (.cells #[.map ob', .map none, .slice a2 N1 c2, .int .i64 (H.nx : Int)] 46)) = V at *
    generalize y2.heap.size = q at *
    obtain ⟨-, d1, -, -⟩ := HC.out V hCV
    clear hO hO1 hO2 HM HG HC HZ C0 hb1 hb2 hC hbV
    cases hgm : H.gm with
    | none =>
      rw [hgm] at d1
      have hG0 : H.G = [] := hI0.out.gnil hgm
      have E1 := range_none
      have hbr : Below V.heap.size V (V.alloc (.mapIter none 0 #[] 0)) := (Below.refl _ _).alloc (Nat.le_refl _) _
      have E2 : (Instr.next (.pointer (some ⟨V.heap.size, 0, none⟩)) false 0).run Try.prog (V.alloc (.mapIter none 0 #[] 0)) = .ok (.tuple #[.bool false]) (V.alloc (.mapIter none 0 #[] 0)) := next_none (heap_alloc_last V _) 0
      have hF : HA w.heap.size (V.alloc (.mapIter none 0 #[] 0)) q M N k := by
        have hc : Cp H.G [] ([] : List (Int × (Nat × Rc))) := ⟨List.nodup_nil, fun n => by simp [ks], fun n g' R e => by cases e⟩
        obtain ⟨z1, z2, z3⟩ := Cp.done (Hc := ⟨q, ob', none, .slice a2 N1 c2, H.nx, H.P, [], H.F⟩) hc hI0.out.kg hI0.out.kp (by rw [hG0]; intro x hx; cases hx) rfl rfl rfl hp0.out hW0.out
        exact ⟨_, rfl, hV.later hbr, z1, z2, fun j => by rw [z3]; exact hM0.out j, hl0.out, hn0.out⟩
      have hB : Below w.heap.size w (V.alloc (.mapIter none 0 #[] 0)) := bthen hCV hbr
      clear hV
      go_wp2
      refine wp_loop_rounds 1 ?_
      rw [rounds_succ]
      go_wp2
      go_ret
      exact ⟨_, rfl, hF, hB⟩
    | some b =>
      rw [hgm] at d1
      have hrw : w.heap.size ≤ V.heap.size := hCV.size
      obtain ⟨hBb, hMb⟩ := hI0.out.gmap' hgm
      obtain ⟨es, cl, hes, hk1, hk2, hk3⟩ := hMb.ex
      have hbl := hMb.lt
      have HE : Hid (Eg es cl (ks H.G)) := ⟨by
        have := congrArg (List.map Prod.fst) hk1
        rw [List.map_map, List.map_map] at this
        rw [ks, List.map_map]
        exact this, hI0.out.kg, hk2, hk3⟩
      have HV : Hid (∀ e ∈ es.toList, _) := fun e he => Eg.val (clock := cl) hk1 he
      have hVb : V.heap[b]? = some (.map es cl) := (hCV.block b hbl).trans hes
      obtain ⟨E1, hIt⟩ := Ip.start hVb
      have hbr : Below V.heap.size V (V.alloc (.mapIter (some b) cl #[] cl)) := (Below.refl _ _).alloc (Nat.le_refl _) _
      have hVr := hV.later hbr
      have hBr := bthen hCV hbr
      have hcp : Hid (Cp H.G [] ([] : List (Int × (Nat × Rc)))) := ⟨List.nodup_nil, fun n => by simp [ks], fun n g' R e => by cases e⟩
      have HPg : Hid (∀ w1 n g R, Below w.heap.size w w1 → (n, (g, R)) ∈ H.G → ∃ Bt, Pi w1 g Bt R allP) := fun w1 n g R k1 k2 => (hI0.out.pg n g R k2).2.imp fun Bt hP => hP.later k1
      obtain ⟨Z, hZ, hzs, hzz, hzi⟩ := zero_page
      have hIt0 : Hid _ := hIt
      clear hMb hes hk1 hk2 hk3 hV hVb hIt hZ
      go_wp2_with fail
      generalize (V.alloc (.mapIter (some b) cl #[] cl)) = W0 at *
      generalize V.heap.size = r at *
      clear E1 d1 hbr
      go_loopw [4, 5, 6] (fun _ _ _ wr => ∃ (told : List Int) (gm' : Option Nat) (G' : List (Int × (Nat × Rc))), HI w.heap.size wr ⟨q, ob', gm', .slice a2 N1 c2, H.nx, H.P, G', H.F⟩ ∧ Hid (Cp H.G told G') ∧ Below w.heap.size w wr ∧ Hid (Ip wr b r es cl told)) (fun _ _ _ wr => lftp wr r es)
      case atStart => exact ⟨[], none, [], hVr, hcp, hBr, hIt0⟩
      case round =>
        obtain ⟨told, gm', G', hH, hCp, hB, hIp⟩ := hrel
        clear hVr hcp hBr hIt0 hCV
        rcases hIp.out.next HE.out 0 with ⟨hn, hfin⟩ | ⟨x, v, w2, hx, hnt, hn, hI2, hr2, hls, hen, e, heM, hek, hev⟩
        · obtain ⟨z1, z2, z3⟩ := Cp.done (Hc := ⟨q, ob', gm', .slice a2 N1 c2, H.nx, H.P, G', H.F⟩) hCp.out hI0.out.kg hI0.out.kp hfin rfl rfl rfl hp0.out hW0.out
          have hF : HA w.heap.size wr q M N k := ⟨⟨_, rfl, hH, z1, z2, fun j => by rw [z3]; exact hM0.out j, hl0.out, hn0.out⟩⟩
          clear hH hCp hIp hfin z1 z2 z3
          go_wp2
          go_ret
          exact ⟨_, rfl, hF, hB⟩
        · obtain ⟨⟨x', g, R⟩, hp, hk4, hv4⟩ := HV.out e heM
          rw [hek] at hk4
          injection hk4 with _ hk5
          simp only at hk5
          subst hk5
          have hv5 : v = .pointer (some ⟨g, 0, none⟩) := by rw [← hev, hv4]; rfl
          subst hv5
          have hB2 : Below w.heap.size w w2 := Rest.below hB hr2 hrw hB.size
          have hH2 : HI w.heap.size w2 ⟨q, ob', gm', .slice a2 N1 c2, H.nx, H.P, G', H.F⟩ := hH.keep hr2.size (fun k o _ e hy => hr2.block k (Array.getElem?_eq_some_iff.1 e).1 (by
            rintro rfl
            obtain ⟨s0, c0, q1, _⟩ := hIp.out
            rw [q1] at e
            cases e
            exact nh_iter hy))
          obtain ⟨Bt, hP⟩ := HPg.out w2 x g R hB2 hp
          obtain ⟨C, hC⟩ : ∃ C : Array Value, (Bt.map (Value.int .u8)).toArray = C := ⟨_, rfl⟩
          have hcs : C.size = 256 := by rw [← hC]; simp [hP.iv.len]
          have hca : C.all (·.oneCell') = true := by rw [← hC]; exact all_oneCell_toArray (ints_one .u8 Bt)
          have hrow : w2.heap[g]? = some (.cells C 69 (0, 0)) := by rw [← hC]; exact hP.pg.row
          have hb3 : Below w2.heap.size w2 (w2.alloc (.cells C 69)) := (Below.refl _ _).alloc (Nat.le_refl _) _
          have hB3 := bthen hB2 hb3
          have hP3 : Pi (w2.alloc (.cells C 69)) w2.heap.size Bt R allP := ⟨⟨by rw [hC]; exact heap_alloc_last w2 _⟩, hP.iv⟩
          have hnk : x ∉ ks G' := fun e => hnt ((hCp.out.key x).1 e)
          have HKp : Hid _ := keep_any (hH2.later hb3) hnk hB2.size ⟨Bt, hP3⟩ (fun m g' R' e => by
            obtain ⟨_, Bt', hP'⟩ := hH2.pg m g' R' e
            have := hP'.pg.lt
            omega)
          have hCn : Hid (∀ g', Cp H.G (told ++ [x]) (up G' x (g', R))) := fun g' => hCp.out.more hp hnt
          obtain ⟨seen, cc, k1, k2, k3, k4⟩ := hI2
          have HIt : Hid (∀ w4, Ft w.heap.size noX (w2.alloc (.cells C 69)) w4 → Ip w4 b r es cl (told ++ [x]) ∧ lftp w4 r es < lftp wr r es) := fun w4 kf => by
            have e1 : w4.heap[r]? = w2.heap[r]? := by
              have := (hb3.block r (Array.getElem?_eq_some_iff.1 k1).1).trans k1
              rw [kf.x this nh_iter, k1]
            have e2 : w4.heap[b]? = w2.heap[b]? := by
              have := (hb3.block b (Array.getElem?_eq_some_iff.1 k3).1).trans k3
              rw [kf.block b _ this (fun h => h) (.inl hbl), k3]
            refine ⟨Ip.keep ⟨seen, cc, k1, k2, k3, k4⟩ e1 e2, ?_⟩
            have : lftp w4 r es = lftp w2 r es := by unfold lftp; rw [e1]
            rw [this]; exact hls
          have hcs' : Hid _ := hcs
          have hca' : Hid _ := hca
          have hrow' : Hid _ := hrow
          have hzs' : Hid _ := hzs
          clear hH hCp hIp hr2 hB hH2 hP hP3 hC hb3 hB2 k1 k2 k3 k4 hls heM hek hev hv4 hp hnt hnk hx hcs hca hrow
          go_wp2_with (first | (refine wpList_load_page rfl (.tmp 36) rfl rfl hrow'.out hcs'.out ?_) | (refine wpList_store_page rfl (.tmp 6) (.tmp 37) rfl (Z := Z) (C := C) rfl rfl rfl hzs'.out hcs'.out hca'.out ?_) | fail)
          refine Calls.mono HKp.out ?_
          rintro e4 w4 ⟨rfl, ⟨gm2, hH4⟩, hf4⟩
          obtain ⟨hI4, hl4⟩ := HIt.out w4 hf4
          have hB4 : Below w.heap.size w w4 := Ft.below hB3 hf4 hB3.size
          have hl4' : Hid _ := hl4
          have hI4' : Hid _ := hI4
          have hC4 : Hid _ := hCn.out w2.heap.size
          clear HKp HIt hCn hf4 hB3 hI4 hl4
          go_wp2
          go_roundw
          case rel => exact ⟨told ++ [x], gm2, _, hH4, hC4, hB4, hI4'⟩
          case measure => exact hl4'.out

end Go.Proofs.Ytmfoenhbldacfaa
