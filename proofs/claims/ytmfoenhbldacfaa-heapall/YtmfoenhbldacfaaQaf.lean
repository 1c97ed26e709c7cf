import Derived.Test.YtmfoenhbldacfaaQae
/- Wiped, pushed together, laid: the page's turns. -/
namespace Go.Proofs.Ytmfoenhbldacfaa
open Go.RowKit
set_option linter.unusedVariables false

set_option maxRecDepth 100000 in
theorem wipe_any {w : World} {g : Nat} {B : List Int} {R : List (List Int)} (h : Pi w g B R allP) (s : Nat) (hs : rc R s ≠ []) :
    Calls Try.prog 46 #[.pointer (some ⟨g, 0, none⟩), .int .i64 (s : Int)] w fun e w' => e = .returned (.tuple #[]) ∧ (∃ B', Pi w' g B' (R.set s []) allP) ∧ Rest g w w' := by
  have hlt := rc_lt hs
  have hf := h.iv.few
  have hhi := h.iv.hi s trivial hs
  have hB := h.iv.len
  have hpos : 0 < (rc R s).length := List.length_pos_iff.2 hs
  have HR : Hid _ := record_any h s hs trivial
  have HW : Hid _ := h.iv.wipe hs
  obtain ⟨m, hm⟩ : ∃ m : Nat, (rc R s).length = m := ⟨_, rfl⟩
  obtain ⟨o, ho⟩ : ∃ o : Nat, wd B (8 + 4 * s) = o := ⟨_, rfl⟩
  rw [hm] at HR HW hhi hpos
  rw [ho] at HR HW hhi
  have HS : Hid (∀ w', Pg w' g (spl B o (List.replicate m 0)) → _) := fun w' h' => setSlot_any h' (by rw [spl_len (by simp; omega)]; exact hB) s 0 0 (by omega) (by omega) (by omega)
  have hfit : o + m ≤ B.length := by omega
  have hP : Hid (∀ w', Below w.heap.size w w' → Pg w' g B) := fun w' hb => h.pg.later hb
  obtain ⟨c, hc⟩ : ∃ c : Nat, 256 - o = c := ⟨_, rfl⟩
  rw [hc] at HR
  clear hm ho hc h hs hf hlt
  go_enter Try.func46, Try.ntmps46
  go_wp2_with fail
  refine Calls.mono HR.out ?_
  rintro e w1 ⟨rfl, hb1⟩
  go_wp2_with (refine wpList_clear rfl (.tmp 6) rfl (hP.out _ hb1) o m c rfl hpos hfit ?_)
  intro w2 h2 hb2
  go_wp2_with fail
  refine Calls.mono (HS.out _ h2) ?_
  rintro e w3 ⟨rfl, h3, hb3⟩
  go_wp2
  exact bodyPost_end (results_none rfl _ _ _) rfl ⟨rfl, ⟨_, h3, HW.out⟩, ((Rest.of hb1).trans hb2).trans hb3⟩

theorem rep_arr {α : Type} (n : Nat) (x : α) : Array.replicate n x = (List.replicate n x).toArray := by simp
theorem zero_page : ∃ Z : Array Value, Z = ((List.replicate 256 (0 : Int)).map (Value.int .u8)).toArray ∧ Z.size = 256 ∧ (∀ w, (zeroValue 69).run Try.prog w = .ok (.agg Z) w) ∧ (Try.prog.info? 69).map (·.size) = some 256 := by
  obtain ⟨h1, h2⟩ := zero_of_info (P := Try.prog) (t := 69) (v := .agg (Array.replicate 256 (.int .u8 0))) (n := 256) (by kernel_rfl)
  refine ⟨Array.replicate 256 (.int .u8 0), ?_, Array.size_replicate, h1, h2⟩
  rw [List.map_replicate, ← rep_arr]

theorem new_any (w : World) : Calls Try.prog 19 #[] w fun e w' => e = .returned (.pointer (some ⟨w.heap.size, 0, none⟩)) ∧ Pi w' w.heap.size (List.replicate 256 0) [] allP ∧ Below w.heap.size w w' := by
  obtain ⟨Z, hZ, hs, hz, hi⟩ := zero_page
  replace hZ : Hid _ := hZ
  go_enter Try.func19, Try.ntmps19
  go_wp2
  refine bodyPost_ret (v := .pointer (some ⟨w.heap.size, 0, none⟩)) (by simp [results, Try.results19]) rfl ⟨rfl, ⟨⟨?_⟩, Iv.new⟩, (Below.refl _ _).alloc (Nat.le_refl _) _⟩
  rw [← hZ.out]
  exact heap_alloc_last w _

theorem size_page : (Try.prog.info? 69).map (·.size) = some 256 := zero_page.elim fun _ h => h.2.2.2
theorem run_load_page {w : World} {g : Nat} {C : Array Value} (hrow : w.heap[g]? = some (.cells C 69 (0, 0))) (hcs : C.size = 256) : (Instr.loadAt 69 (.pointer (some ⟨g, 0, none⟩))).run Try.prog w = .ok (.agg C) w := by
  have := run_loadVar_row w g 69 69 C (0, 0) _ hrow Try.underlying69 rfl (by rw [size_page, hcs])
  simp only [Instr.loadAt, Instr.sureAddr, Sem.run_bind, Sem.run_pure, Result.andThen]
  exact this
theorem run_store_page (w : World) {Z C : Array Value} (hs : Z.size = 256) (hcs : C.size = 256) (hca : C.all (·.oneCell') = true) : (Instr.storeAt 69 (.pointer (some ⟨w.heap.size, 0, none⟩)) (.agg C)).run Try.prog (w.alloc (.cells Z 69)) = .ok () (w.alloc (.cells C 69)) :=
  run_storeAt_new w 69 Z C (by rw [size_page, hcs]) (by rw [hcs, hs]) hca

theorem wpList_load_page {w : World} {ops : Array Oper} {rest : List Oper} {o : Oper} {a : Act} {Q : Exit → Act → World → Prop} (hgd : o.guard = none) (x : Operand) (ho : o.op = .load 69 x) {g : Nat} {C : Array Value}
    (hx : a.eval x = .pointer (some ⟨g, 0, none⟩)) (hrow : w.heap[g]? = some (.cells C 69 (0, 0))) (hcs : C.size = 256)
    (h : wpList Try.prog ops Q rest (a.put o.dst (.agg C)) w) : wpList Try.prog ops Q (o :: rest) a w :=
  wpList_plain hgd fun _ hK => by
    unfold Oper.wp execOp
    simp only [ho, hx, run_load_page hrow hcs, Sem.run_bind, Sem.run_pure, Result.andThen_ok]
    exact hK _ _ h
theorem wpList_store_page {w w0 : World} {ops : Array Oper} {rest : List Oper} {o : Oper} {a : Act} {Q : Exit → Act → World → Prop} (hgd : o.guard = none) (x y : Operand) (ho : o.op = .store 69 x y) {Z C : Array Value}
    (hx : a.eval x = .pointer (some ⟨w0.heap.size, 0, none⟩)) (hy : a.eval y = .agg C) (hw : w = w0.alloc (.cells Z 69)) (hs : Z.size = 256) (hcs : C.size = 256) (hca : C.all (·.oneCell') = true)
    (h : wpList Try.prog ops Q rest (a.put o.dst undef) (w0.alloc (.cells C 69))) : wpList Try.prog ops Q (o :: rest) a w :=
  wpList_plain hgd fun _ hK => by
    subst hw
    unfold Oper.wp execOp
    simp only [ho, hx, hy, run_store_page w0 hs hcs hca, Sem.run_bind, Sem.run_pure, Result.andThen_ok]
    exact hK _ _ h

theorem Iv.rd {w : World} {g : Nat} {B : List Int} {R : List (List Int)} {p : Nat → Prop} (h : Pi w g B R p) {s : Nat} (hp : p s) (hs : rc R s ≠ []) :
    Rd .u8 w (some ⟨g, wd B (8 + 4 * s), none⟩) (rc R s).length (256 - wd B (8 + 4 * s)) (rc R s) := by
  have hhi := h.iv.hi s hp hs
  have hl := h.iv.len
  refine ⟨rfl, by omega, by omega, (fun e => by cases e), fun _ => ⟨g, _, rfl, fun i hi => ?_⟩⟩
  rw [h.pg.cell (by omega), h.iv.dat s hp hs i hi]
theorem Iv.byr {B : List Int} {R : List (List Int)} {p : Nat → Prop} (h : Iv B R p) {s : Nat} (hp : p s) (hs : rc R s ≠ []) : By (rc R s) := fun x hx => by
  obtain ⟨j, hj, rfl⟩ := List.getElem_of_mem hx
  have e := h.dat s hp hs j hj
  have hb := h.bys.nth (wd B (8 + 4 * s) + j)
  rw [e, nth, List.getElem?_eq_getElem hj] at hb
  exact hb

set_option maxRecDepth 100000 in
theorem pack_any {w : World} {g : Nat} {B : List Int} {R : List (List Int)} (h : Pi w g B R allP) (hn : R.length ≤ 61) :
    Calls Try.prog 50 #[.pointer (some ⟨g, 0, none⟩)] w fun e w' => e = .returned (.tuple #[]) ∧ (∃ B', Pi w' g B' R allP ∧ ∀ s, rc R s ≠ [] → 256 - tot R ≤ wd B' (8 + 4 * s)) ∧ Rest g w w' := by
  obtain ⟨Z, hZ, hs, hz, hi⟩ := zero_page
  obtain ⟨C, hC⟩ : ∃ C, (B.map (Value.int .u8)).toArray = C := ⟨_, rfl⟩
  have hcs : C.size = 256 := by rw [← hC]; simp [h.iv.len]
  have hca : C.all (·.oneCell') = true := by rw [← hC]; exact all_oneCell_toArray (ints_one .u8 B)
  have hrow := h.pg.row
  rw [hC] at hrow
  replace hZ : Hid _ := hZ
  replace hC : Hid _ := hC
  replace hcs : Hid _ := hcs
  replace hca : Hid _ := hca
  replace hs : Hid _ := hs
  replace hrow : Hid _ := hrow
  clear hi
  go_enter Try.func50, Try.ntmps50
  go_upto_region 1 with (first | (refine wpList_load_page rfl (.tmp 8) rfl rfl hrow.out hcs.out ?_) | (refine wpList_store_page rfl (.tmp 2) (.tmp 9) rfl (Z := Z) (C := C) rfl rfl rfl hs.out hcs.out hca.out ?_))
  obtain ⟨q, hq⟩ : ∃ q, w.heap.size = q := ⟨_, rfl⟩
  obtain ⟨W, hW⟩ : ∃ W, w.alloc (.cells C 69) = W := ⟨_, rfl⟩
  have hgq : g < q := by rw [← hq]; exact h.pg.lt
  have hbW : Below w.heap.size w W := by rw [← hW]; exact (Below.refl _ _).alloc (Nat.le_refl _) _
  have h1 := h.later hbW
  have h2 : Pi W q B R allP := ⟨⟨by rw [hC.out, ← hW, ← hq]; exact heap_alloc_last w _⟩, h.iv⟩
  have hsz : q < W.heap.size := h2.pg.lt
  rw [hW, hq]
  have hrW : Hid (Rest g w W) := Rest.of hbW
  replace hq : Hid _ := hq
  have h0 := h.iv
  clear hW hbW hrow hz hZ hcs hca hs h
  have hf := h0.few
  have hl := h0.len
  have HM : Hid (∀ w', Below W.heap.size W w' → _) := fun w' hb => many_any (h1.later hb)
  have HS : Hid (∀ w', _) := fun w' => slotAt_any R.length w' (by omega)
  have HP1 : Hid (∀ w', Below W.heap.size W w' → Pg w' g B) := fun w' hb => h1.pg.later hb
  have HCUT := cut_from g (8 + 4 * R.length) (by omega)
  have HI : Hid _ := h0.wiped
  have hfit : 8 + 4 * R.length + (256 - (8 + 4 * R.length)) ≤ B.length := by omega
  have hpos : 0 < 256 - (8 + 4 * R.length) := by omega
  obtain ⟨o, ho⟩ : ∃ o, 8 + 4 * R.length = o := ⟨_, rfl⟩
  obtain ⟨n, hnn⟩ : ∃ n, R.length = n := ⟨_, rfl⟩
  rw [ho] at HS HCUT HI hfit hpos
  rw [hnn] at HM HS
  obtain ⟨c, hc⟩ : ∃ c, 256 - o = c := ⟨_, rfl⟩
  rw [hc] at HCUT HI hfit hpos
  have hC0 : Below W.heap.size W W.drew := (Below.refl _ W).drew
  replace hnn : Hid _ := hnn
  replace ho : Hid _ := ho
  clear hc hl hf
  go_region_held3 (fun _ => True) (trivial) (first
    | (go_at_call 47; with_reducible refine Calls.mono (HM.out _ hC0) ?_; rintro e z1 ⟨rfl, hb2⟩; replace hC0 := bthen hC0 hb2)
    | (go_at_call 49; with_reducible refine Calls.mono (HS.out _) ?_; rintro e z1 ⟨rfl, rfl⟩)
    | (refine step_clear rfl (.tmp 16) rfl (HP1.out _ hC0) o c c rfl hpos hfit ?_; intro z3 hp3 hr3))
  have hr4 := (Rest.of hC0).trans hr3
  have h4 := h2.rest hr4 (by omega)
  have hsz4 : q < z3.heap.size := h4.pg.lt
  have hr5 : Hid (Rest g w z3) := hrW.out.trans hr4
  have HSL : Hid _ := slots_any h4
  have hsn := prI_len R R.length
  rw [hnn.out] at HSL hsn
  have hn2 : n ≤ 61 := by rw [← hnn.out]; exact hn
  replace hp3 : Hid _ := hp3
  clear hC0 hr3 HM HS HP1 HCUT hr4 hrW h2 h1
  go_wp2_with fail
  refine Calls.mono HSL.out ?_
  rintro e w5 ⟨⟨v, rfl, hown⟩, hb5⟩
  have h5 := h4.later hb5
  have hp5 := hp3.out.later hb5
  have hr6 := hr5.out.trans (Rest.of hb5)
  obtain ⟨sa, sc, rfl, hsr, hsb⟩ := hown.rd
  have hsa : ∀ a, sa = some a → a.block ≠ g := fun a ha => by have := hsb a ha; omega
  obtain ⟨L, hL⟩ : ∃ L, prs R n = L := ⟨_, rfl⟩
  have hLI : prI R n = L.map (fun (s : Nat) => (s : Int)) := by rw [prI, hL]
  rw [hLI] at hsr hsn ⊢
  rw [List.length_map] at hsr hsn ⊢
  have hmem : ∀ t, t ∈ L → rc R t ≠ [] := fun t ht => by rw [← hL, prs_mem] at ht; exact ht.2
  have hall : ∀ t, rc R t ≠ [] → t ∈ L := fun t ht => by rw [← hL, prs_mem, ← hnn.out]; exact ⟨rc_lt ht, ht⟩
  have hnd : L.Nodup := by rw [← hL]; exact prs_nodup R n
  have hsm : sm R L = tot R := by rw [← hL, sm_prs, ← hnn.out, List.take_length]
  have hfr : 8 + 4 * n + tot R ≤ 256 := by have := h0.fr; have h9 := hnn.out; simp only [freeR] at this; omega
  have hI0 : Iv (spl B o (List.replicate c 0)) R (fun t => t ∈ L.take 0) := HI.out.weak (fun t _ ht => by simp at ht)
  have hbyr : ∀ t, rc R t ≠ [] → By (rc R t) := fun t ht => h0.byr trivial ht
  have hoff : ∀ t, rc R t ≠ [] → wd B (8 + 4 * t) < 256 := fun t ht => by have := h0.hi t trivial ht; have := List.length_pos_iff.2 ht; omega
  replace hmem : Hid _ := hmem
  replace hall : Hid _ := hall
  replace hnd : Hid _ := hnd
  replace hsm : Hid _ := hsm
  replace hI0 : Hid _ := hI0
  replace hbyr : Hid _ := hbyr
  replace hoff : Hid _ := hoff
  replace hsa : Hid _ := hsa
  obtain ⟨m, hm⟩ : ∃ m, L.length = m := ⟨_, rfl⟩
  rw [hm] at hsr hsn ⊢
  replace hm : Hid _ := hm
  obtain ⟨T, hT⟩ : ∃ T, tot R = T := ⟨_, rfl⟩
  rw [hT] at hfr
  replace hT : Hid _ := hT
  clear hown hsb hLI hL h4 hp3 HSL h0 HI hb5 hr5 hC hfit hpos
  go_wp2
  go_loopw [3, 19] (fun av i wr => ∃ (k : Nat) (C : List Int), k ≤ m ∧ i = .int .i64 (k : Int) ∧ (∃ x : Nat, Hid (sm R (L.take k) = x) ∧ x ≤ T ∧ av = .int .i64 (256 - (x : Int)) ∧ Hid (∀ t, t ∈ L.take k → rc R t ≠ [] → 256 - x ≤ wd C (8 + 4 * t))) ∧
    Pg wr g C ∧ Hid (Iv C R (fun t => t ∈ L.take k)) ∧ Pi wr q B R allP ∧ Rd .i64 wr sa m sc (L.map (fun (s : Nat) => (s : Int))) ∧ Rest g w wr) (fun av i wr => m - (intOf i).toNat)
  case atStart => exact ⟨0, _, Nat.zero_le _, rfl, ⟨0, by simp [Hid, sm], Nat.zero_le _, by go_num, by simp [Hid]⟩, hp5, hI0, h5, hsr, hr6⟩
  case round =>
    obtain ⟨k, C, hk, rfl, ⟨x, hx, hxT, rfl, hlow⟩, hp, hI, hq1, hs1, hr⟩ := hrel
    by_cases hlt : k < m
    · obtain ⟨s, hs⟩ : ∃ s, L[k]'(by rw [hm.out]; exact hlt) = s := ⟨_, rfl⟩
      have hkl : k < L.length := by rw [hm.out]; exact hlt
      have hsL : s ∈ L := by rw [← hs]; exact List.getElem_mem _
      have hne := hmem.out s hsL
      have hcell : nth (L.map (fun (s : Nat) => (s : Int))) k = (s : Int) := by simp [nth, hkl, hs]
      obtain ⟨b, o', hbo, hcc⟩ := hs1.cells (by omega)
      have hc0 := hcc k hlt
      rw [hcell] at hc0
      have hlen := hs1.len
      have hxs := sm_take_succ R L hkl
      rw [hs, hx.out] at hxs
      have hxT2 := sm_take_le R L (k + 1)
      rw [hxs, hsm.out, hT.out] at hxT2
      have hrl := List.length_pos_iff.2 hne
      have ho1 := hoff.out s hne
      have hRc : Hid _ := record_any hq1 s hne trivial
      have hby := hbyr.out s hne
      have hns : s ∉ L.take k := fun hin => by
        obtain ⟨j, hj, e⟩ := List.getElem_of_mem hin
        rw [List.length_take] at hj
        rw [List.getElem_take] at e
        exact (List.pairwise_iff_getElem.1 hnd.out) j k (by omega) hkl (by omega) (by rw [e, hs])
      have htk : ∀ t, t ∈ L.take (k + 1) ↔ t ∈ L.take k ∨ t = s := fun t => by
        rw [List.take_succ_eq_append_getElem hkl, List.mem_append, hs]; simp
      have hpk := hI.out.pack (s := s) (at' := 256 - x - (rc R s).length) (L := 256 - x) hne hby hlow.out hns (by omega) (by omega) (by rw [hnn.out]; omega)
      have hI2 : Hid (Iv (packB C s (256 - x - (rc R s).length) (rc R s)) R (fun t => t ∈ L.take (k + 1))) := hpk.1.weak (fun t _ ht => (htk t).1 ht)
      have hlow2 : Hid (∀ t, t ∈ L.take (k + 1) → rc R t ≠ [] → 256 - (x + (rc R s).length) ≤ wd (packB C s (256 - x - (rc R s).length) (rc R s)) (8 + 4 * t)) := fun t ht hn => by
        have := hpk.2 t ((htk t).1 ht) hn
        omega
      have hsn2 : s < R.length := rc_lt hne
      rw [hnn.out] at hsn2
      have hCl := hI.out.len
      have hSS : Hid (∀ w', Pg w' g (spl C (256 - x - (rc R s).length) (rc R s)) → _) := fun w' h' => setSlot_any h' (by rw [spl_len (by omega)]; exact hCl) s (256 - x - (rc R s).length) (rc R s).length (by omega) (by omega) (by omega)
      have hRD := fun (w' : World) (hb : Below wr.heap.size wr w') => Iv.rd (hq1.later hb) (s := s) trivial hne
      have hP2 := fun (w' : World) (hb : Below wr.heap.size wr w') => hp.later hb
      have hCUT := cut_from g (256 - x - (rc R s).length) (by omega)
      obtain ⟨r, hr0⟩ : ∃ r, rc R s = r := ⟨_, rfl⟩
      rw [hr0] at hRc hI2 hlow2 hSS hRD hCUT hxs hxT2 hrl
      have hxs2 : Hid (sm R (L.take (k + 1)) = x + r.length) := hxs
      obtain ⟨rl, hrl0⟩ : ∃ n, r.length = n := ⟨_, rfl⟩
      rw [hrl0] at hRc hI2 hlow2 hSS hRD hCUT hxs2 hxT2 hrl
      obtain ⟨ro, hro⟩ : ∃ n, wd B (8 + 4 * s) = n := ⟨_, rfl⟩
      rw [hro] at hRc hRD ho1
      obtain ⟨rcp, hrc⟩ : ∃ n, 256 - ro = n := ⟨_, rfl⟩
      rw [hrc] at hRc hRD
      obtain ⟨at', hat⟩ : ∃ n, 256 - x - rl = n := ⟨_, rfl⟩
      rw [hat] at hI2 hlow2 hSS hCUT
      obtain ⟨d, hd⟩ : ∃ n, 256 - at' = n := ⟨_, rfl⟩
      rw [hd] at hCUT
      have hat1 : 256 - (x : Int) - (rl : Int) = (at' : Int) := by omega
      have hat2 : rl ≤ d := by omega
      have hat3 : at' + rl ≤ C.length := by omega
      have hwr1 : IntKind.i64.wrap (256 - (x : Int) - (rl : Int)) = (at' : Int) := by rw [IntKind.wrap_i64]; omega
      have hx2 : x + rl ≤ T := by omega
      have hat4 : (256 : Int) - ((x + rl : Nat) : Int) = (at' : Int) := by omega
      have hqg : q ≠ g := by omega
      replace hRD : Hid _ := hRD
      replace hP2 : Hid _ := hP2
      replace hat4 : Hid _ := hat4
      replace hrl0 : Hid _ := hrl0
      clear hpk hns htk hcc hcell hs hsL hne hby hxs hxT2 hr0 hro hrc hat hd hsn2 hCl hI hlow hx hp hm hnd hsm hmem hoff hbyr hI0 ho1
      subst hbo
      have hbg := hsa.out _ rfl
      go_wp2_with fail
      refine Calls.mono hRc.out ?_
      rintro e w6 ⟨rfl, hb6⟩
      have hq2 := hq1.later hb6
      have hs2 := hs1.later hb6
      have hp2 := hP2.out _ hb6
      have hrd := hRD.out _ hb6
      have hr2 := hr.trans (Rest.of hb6)
      clear hq1 hs1 hr hP2 hRD hRc hb6 hc0
      go_wp2_with (refine wpList_copy rfl (.tmp 33) (.tmp 34) rfl hp2 at' d d rcp rl ⟨q, ro, none⟩ rfl rfl hrd hat2 hat3 ?_)
      intro w7 hp7 hr7
      have hq3 := hq2.rest hr7 hqg
      have hs3 := hs2.rest hr7 (fun a ha => by cases ha; exact hbg)
      have hr3 := hr2.trans hr7
      clear hq2 hs2 hr2 hp2 hrd hr7
      go_wp2_with fail
      refine Calls.mono (hSS.out _ hp7) ?_
      rintro e w8 ⟨rfl, hp8, hr8⟩
      have hq4 := hq3.rest hr8 hqg
      have hs4 := hs3.rest hr8 (fun a ha => by cases ha; exact hbg)
      have hr4 := hr3.trans hr8
      clear hq3 hs3 hr3 hr8 hSS hp7
      go_wp2
      go_roundw
      case rel => exact ⟨k + 1, _, hlt, by go_num, ⟨x + rl, hxs2, hx2, by rw [hat4.out], hlow2⟩, by rw [packB, hrl0.out]; exact hp8, hI2, hq4, hs4, hr4⟩
      case measure => simp [intOf]; omega
    · obtain rfl : k = m := by omega
      have hIall : Iv C R allP := hI.out.weak (fun t ht _ => by rw [List.take_of_length_le (by rw [hm.out]; exact Nat.le_refl _)]; exact hall.out t ht)
      have hxe := hx.out
      rw [List.take_of_length_le (by rw [hm.out]; exact Nat.le_refl _), hsm.out] at hxe
      have hlow3 : ∀ t, rc R t ≠ [] → 256 - tot R ≤ wd C (8 + 4 * t) := fun t ht => by
        rw [hxe]
        exact hlow.out t (by rw [List.take_of_length_le (by rw [hm.out]; exact Nat.le_refl _)]; exact hall.out t ht) ht
      replace hIall : Hid _ := hIall
      replace hlow3 : Hid _ := hlow3
      clear hxe
      go_wp2
      exact bodyPost_end (results_none rfl _ _ _) rfl ⟨rfl, ⟨C, ⟨hp, hIall.out⟩, hlow3.out⟩, hr⟩

end Go.Proofs.Ytmfoenhbldacfaa
