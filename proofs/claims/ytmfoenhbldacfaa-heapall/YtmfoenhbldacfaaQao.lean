import Derived.Test.YtmfoenhbldacfaaQan
/- slices.Insert of a gap. -/
namespace Go.Proofs.Ytmfoenhbldacfaa
open Go.RowKit
set_option linter.unusedVariables false
set_option linter.unusedSimpArgs false

theorem infoGap : (Try.prog.info? 66).map (fun i => (i.zero, i.size, i.bytes)) = some (some (.agg #[.int .i64 0, .int .i64 0]), 2, 16) := by kernel_rfl
theorem ins_flat (F : List (Int × Int)) (i : Nat) (x : Int × Int) : ((F.take i ++ x :: F.drop i).map gcl).flatten = ((F.take i).map gcl).flatten ++ (gcl x ++ ((F.drop i).map gcl).flatten) := by
  rw [List.map_append, List.flatten_append, List.map_cons, List.flatten_cons]
theorem ins_len (F : List (Int × Int)) {i : Nat} (hi : i ≤ F.length) (x : Int × Int) : (F.take i ++ x :: F.drop i).length = F.length + 1 := by simp; omega
/-- In place: what is behind goes two cells up, then the gap. -/
theorem ins_cells {L : List Value} {F : List (Int × Int)} {i : Nat} (hi : i < F.length) (hL : F.length * 2 + 2 ≤ L.length) (h : L.take (F.length * 2) = (F.map gcl).flatten) (x : Int × Int) :
    (sp (sp L ((i + 1) * 2) ((F.drop i).map gcl).flatten) (i * 2) (gcl x)).take ((F.length + 1) * 2) = ((F.take i ++ x :: F.drop i).map gcl).flatten := by
  have hd : (((F.drop i).map gcl).flatten).length = (F.length - i) * 2 := by rw [gfl, List.length_drop]
  have ht : (((F.take i).map gcl).flatten).length = i * 2 := by rw [gfl, List.length_take]; omega
  have h1 : L.take (i * 2) = ((F.take i).map gcl).flatten := by
    rw [← gfl_take, ← h, List.take_take, Nat.min_eq_left (by omega)]
  have hg : (gcl x).length = 2 := rfl
  have hs : (sp L ((i + 1) * 2) ((F.drop i).map gcl).flatten).length = L.length := sp_len (by omega)
  have e1 : (sp L ((i + 1) * 2) ((F.drop i).map gcl).flatten).take (i * 2) = ((F.take i).map gcl).flatten := by
    rw [← h1]
    have := sp_take (L := L) (o := (i + 1) * 2) (cs := ((F.drop i).map gcl).flatten) (by omega)
    have h2 := congrArg (List.take (i * 2)) this
    rwa [List.take_take, List.take_take, Nat.min_eq_left (by omega)] at h2
  have e2 : (sp L ((i + 1) * 2) ((F.drop i).map gcl).flatten).drop ((i + 1) * 2) = ((F.drop i).map gcl).flatten ++ L.drop ((i + 1) * 2 + (F.length - i) * 2) := by
    unfold sp
    rw [List.append_assoc, List.drop_append_of_le_length (by simp; omega), List.drop_of_length_le (by simp; omega), List.nil_append, hd]
  rw [ins_flat]
  unfold sp at e1 e2 ⊢
  rw [e1, hg, show i * 2 + 2 = (i + 1) * 2 from by omega, e2, ← List.append_assoc, ← List.append_assoc]
  rw [List.take_append_of_le_length (by simp only [List.length_append, ht, hd, hg]; omega), List.take_of_length_le (by simp only [List.length_append, ht, hd, hg]; omega)]

set_option maxRecDepth 100000 in
set_option maxHeartbeats 2000000 in
theorem insert_end {B : Nat} {w : World} {v : Value} {F : List (Int × Int)} (h : OwnG B w v F) (x : Int × Int) (vb : Nat) (hv : Rw w vb (gcl x)) (hl : F.length ≤ 900) (hB : B ≤ w.heap.size) :
    Calls Try.prog 69 #[v, .int .i64 (F.length : Int), .slice (some ⟨vb, 0, none⟩) 1 1] w fun e w' => ∃ v', e = .returned v' ∧ OwnG B w' v' (F ++ [x]) ∧ w.grownBy w' v.ownBlock := by
  obtain ⟨ao, c, rfl, hc, hc63, -⟩ := h.cells
  obtain ⟨z, hz⟩ : ∃ z, ∀ w' : World, (Instr.slice 44 (.slice ao F.length c) (some (.int .i64 (F.length : Int))) none none).run Try.prog w' = .ok z w' := by
    rcases h.parts with ⟨e, hF⟩ | ⟨g, cap, cur, e, _, _, h4, _⟩
    · subst hF
      cases e
      exact ⟨_, fun w' => sl_none w'⟩
    · cases e
      exact ⟨_, fun w' => sl_tail rfl (Nat.le_refl _) hc w'⟩
  obtain ⟨i, hi, hzz, hsz, hb⟩ := info_parts infoGap
  obtain ⟨v', w', hr, h2, h3, _, _⟩ := run_append_own_at (P := Try.prog) w B 44 44 66 i _ 2 16 Try.underlying44 hi hzz hsz hb rfl (by omega) (.slice ao F.length c) (F.map gcl).length _ h.2 ⟨vb, 0, none⟩ 1 1 (gcl x) rfl
    (src_of hv (fun j u e => by rw [Nat.zero_add]; exact e)) (by intro u hu; exact gcl_one [x] u (by simpa using hu)) (by rw [List.length_map]; unfold maxLen; omega) (by rw [List.length_map]; omega) hB
  have hO : Hid (OwnG B w' v' (F ++ [x])) := by
    refine ⟨gcl_len _, ?_⟩
    rw [List.map_append, List.flatten_append, List.length_append]
    simpa using h2
  obtain ⟨n, hn⟩ : ∃ n, F.length = n := ⟨_, rfl⟩
  rw [hn] at hz hr hc h3 ⊢
  clear h h2 hi hzz hsz hb hn hl
  go_enter Try.func69, Try.ntmps69
  go_wp2_with (at_builtin; refine wpList_app2 rfl (.tmp 23) (.tmp 24) 44 44 rfl rfl rfl hr ?_)
  go_ret
  exact ⟨_, rfl, hO.out, h3⟩

theorem overlaps_rw {w : World} {g vb : Nat} {L V : List Value} (hg : Rw w g L) (hv : Rw w vb V) (hne : vb ≠ g) (hL : L.length ≠ 0) (o lc cc : Nat) :
    (callFunc 83 #[.slice (some ⟨vb, 0, none⟩) 1 1, .slice (some ⟨g, o, none⟩) lc cc]).run Try.prog w = .ok (.value (.bool false)) w := by
  have hsv : w.shape? vb = some (66, V.length) := by unfold World.shape?; rw [hv.row]; simp
  have hsg : w.shape? g = some (66, L.length) := by unfold World.shape?; rw [hg.row]; simp
  rw [run_callFunc_extern Try.func83 (by kernel_rfl) (by kernel_rfl) (by kernel_rfl) (e := Extern.SlicesOverlaps.overlaps #[44, 44] #[4]) (by kernel_rfl),
    Lib.run_overlaps_apart w 44 4 66 Try.underlying44 2 sizeG ⟨vb, 0, none⟩ ⟨g, o, none⟩ 1 1 lc cc hne _ _ _ _ hsv hsg hL (hv.frozen 0) (hv.frozen _)]
  rfl
theorem src_drop {w : World} {g : Nat} {L : List Value} {F : List (Int × Int)} (h : Rw w g L) (hT : L.take (F.length * 2) = (F.map gcl).flatten) (i : Nat) : ∀ j v, (((F.drop i).map gcl).flatten)[j]? = some v → w.cell? ((⟨g, i * 2, none⟩ : Addr).add j) = some v :=
  src_of h (fun j v e => by
    rw [← gfl_drop, ← hT, List.getElem?_drop, List.getElem?_take] at e
    split at e
    · exact e
    · cases e)

set_option maxRecDepth 100000 in
set_option maxHeartbeats 2000000 in
theorem insert_room {B : Nat} {w : World} {g cap n : Nat} {F : List (Int × Int)} (h : OwnG B w (.slice (some ⟨g, 0, none⟩) n cap) F) (x : Int × Int) (vb : Nat) (hv : Rw w vb (gcl x)) (hne : vb ≠ g) (i : Nat) (hi : i < F.length) (hroom : F.length + 1 ≤ cap) (hl : F.length ≤ 900) :
    Calls Try.prog 69 #[.slice (some ⟨g, 0, none⟩) n cap, .int .i64 (i : Int), .slice (some ⟨vb, 0, none⟩) 1 1] w fun e w' => e = .returned (.slice (some ⟨g, 0, none⟩) (F.length + 1) cap) ∧ OwnG B w' (.slice (some ⟨g, 0, none⟩) (F.length + 1) cap) (F.take i ++ x :: F.drop i) ∧ Rest g w w' := by
  obtain ⟨L, rfl, hB, hR, hc, hm, hL, hT⟩ := h.rw
  have hd : (((F.drop i).map gcl).flatten).length = (F.length - i) * 2 := by rw [gfl, List.length_drop]
  have hF : Hid (∀ w' : World, Rw w' g (sp (sp L ((i + 1) * 2) ((F.drop i).map gcl).flatten) (i * 2) (gcl x)) → OwnG B w' (.slice (some ⟨g, 0, none⟩) (F.length + 1) cap) (F.take i ++ x :: F.drop i)) := fun w' k => by
    have hl := ins_len F (Nat.le_of_lt hi) x
    have hg : (gcl x).length = 2 := rfl
    have := k.own (F := F.take i ++ x :: F.drop i) hB (by omega) hm (by rw [sp_len (by rw [sp_len (by omega)]; omega), sp_len (by omega)]; exact hL) (by rw [hl]; exact ins_cells hi (by omega) hT x)
    rw [hl] at this
    exact this
  have HA : Hid (∀ W ty, Rw W g L → _) := fun W ty k => k.copy ty ((i + 1) * 2) (F.length + 1 - (i + 1)) (cap - (i + 1)) (F.length + 1 - i) (cap - i) ⟨g, i * 2, none⟩ ((F.drop i).map gcl).flatten
    (by rw [hd, show F.length + 1 - (i + 1) = F.length - i from by omega]; congr 1; exact (Nat.min_eq_right (by omega)).symm) (src_drop k hT i) (by omega) (gcl_one _)
  have HB : Hid (∀ W ty, Rw W g (sp L ((i + 1) * 2) ((F.drop i).map gcl).flatten) → Rw W vb (gcl x) → _) := fun W ty k k2 => k.copy ty (i * 2) (F.length + 1 - i) (cap - i) 1 1 ⟨vb, 0, none⟩ (gcl x)
    (by rw [show Nat.min 1 (F.length + 1 - i) = 1 from Nat.min_eq_left (by omega)]; rfl) (src_of k2 (fun j u e => by rw [Nat.zero_add]; exact e)) (by rw [sp_len (by omega)]; have : (gcl x).length = 2 := rfl; omega) (by intro u hu; exact gcl_one [x] u (by simpa using hu))
  have HO : Hid (∀ o lc cc, _) := fun o lc cc => overlaps_rw hR hv hne (by omega) o lc cc
  have hvd : Rw w.drew vb (gcl x) := hv.keep rfl
  have hRd : Rw w.drew g L := hR.keep rfl
  obtain ⟨n, hn⟩ : ∃ n, F.length = n := ⟨_, rfl⟩
  have hn9 : n ≤ 900 := by omega
  rw [hn] at HA HB hF hc hroom hi ⊢
  have hs1 : Hid (∀ w' : World, _) := fun w' => sl_tail (g := g) (n := n) (c := cap) (k := i) (x := i) rfl (by omega) hc w'
  have S1 := hs1.out
  obtain ⟨z1, hz1⟩ : ∃ z, Value.slice (if cap = i then some (⟨g, 0, none⟩ : Addr) else some ⟨g, i * 2, none⟩) (n - i) (cap - i) = z := ⟨_, rfl⟩
  rw [hz1] at S1
  have S2 := fun w' => sl_upto (g := g) (n := n) (c := cap) (k := n + 1) (x := (n : Int) + 1) (by omega) (by omega) w'
  have S3 := fun w' => sl_from (g := g) (n := n + 1) (c := cap) (k := i + 1) (x := (i : Int) + 1) (by omega) (by omega) (by omega) (by omega) w'
  have S4 := fun w' => sl_from (g := g) (n := n + 1) (c := cap) (k := i) (x := i) rfl (by omega) (by omega) (by omega) w'
  obtain ⟨A, hA⟩ : ∃ A, n + 1 - (i + 1) = A := ⟨_, rfl⟩
  obtain ⟨D, hD⟩ : ∃ D, n + 1 - i = D := ⟨_, rfl⟩
  obtain ⟨A2, hA2⟩ : ∃ A, cap - (i + 1) = A := ⟨_, rfl⟩
  obtain ⟨D2, hD2⟩ : ∃ D, cap - i = D := ⟨_, rfl⟩
  obtain ⟨N1, hN1⟩ : ∃ N, n + 1 = N := ⟨_, rfl⟩
  rw [hA, hA2] at S3 HA
  rw [hD, hD2] at S4 HA HB
  rw [hN1] at S2 S3 S4 hF ⊢
  have g1 : ((i : Int) == (n : Int)) = false := by simp; omega
  have g2 : decide ((cap : Int) < (n : Int) + 1) = false := by simp; omega
  replace hA : Hid _ := hA
  replace hD : Hid _ := hD
  replace hA2 : Hid _ := hA2
  replace hD2 : Hid _ := hD2
  replace hN1 : Hid _ := hN1
  have hOv := HO.out ((i + 1) * 2) A A2
  have hwr : IntKind.i64.wrap ((i : Int) + 1) = (i : Int) + 1 := by rw [IntKind.wrap_i64]; omega
  clear h hT hL hm hd hn hs1 hz1 hl hc hroom hR HO
  go_enter Try.func69, Try.ntmps69
  go_upto_region 15 with (simp only [hOv])
  go_region_held3 (fun _ => True) (trivial)
    (first | (obtain ⟨y1, kk, k1, k2, k3⟩ := HA.out _ 3 hRd; refine step_copy2 rfl (.tmp 73) (.tmp 76) 44 44 rfl (by simp [Act.eval, Act.put]) (by simp [Act.eval, Act.put]) k1 ?_))
  all_goals
    have hv1 : Rw y1 vb (gcl x) := hvd.keep (k3.block vb hvd.lt hne)
    obtain ⟨y2, k5, j1, j2, j3⟩ := HB.out y1 3 k2 hv1
    have hA2 := ((Rest.of (g := g) (Below.refl _ w).drew).trans k3).trans j3
    clear HA HB k1 k2 k3 hv1 hvd hv hRd
    go_wp2
    go_ret
    exact ⟨rfl, hF.out _ j2, hA2⟩

/-- What a list is that has been made anew, one gap longer. -/
theorem grow_cells {F : List (Int × Int)} {i : Nat} (hi : i < F.length) (Z : List Value) (hZ : (F.length + 1 - i) * 2 ≤ Z.length) (x : Int × Int) :
    (sp (sp (((F.take i).map gcl).flatten ++ Z) (i * 2) (gcl x)) ((i + 1) * 2) ((F.drop i).map gcl).flatten).take ((F.length + 1) * 2) = ((F.take i ++ x :: F.drop i).map gcl).flatten := by
  have hd : (((F.drop i).map gcl).flatten).length = (F.length - i) * 2 := by rw [gfl, List.length_drop]
  have ht : (((F.take i).map gcl).flatten).length = i * 2 := by rw [gfl, List.length_take]; omega
  have hg : (gcl x).length = 2 := rfl
  have e0 : (((F.take i).map gcl).flatten ++ Z).take (i * 2) = ((F.take i).map gcl).flatten := by rw [← ht]; exact List.take_left
  have e1 := sp_take2 (L := ((F.take i).map gcl).flatten ++ Z) (o := i * 2) (cs := gcl x) (by simp only [List.length_append]; omega)
  rw [e0, hg, show i * 2 + 2 = (i + 1) * 2 from by omega] at e1
  have hs : (sp (((F.take i).map gcl).flatten ++ Z) (i * 2) (gcl x)).length = i * 2 + Z.length := by rw [sp_len (by simp only [List.length_append]; omega)]; simp only [List.length_append]; omega
  have e2 := sp_take2 (L := sp (((F.take i).map gcl).flatten ++ Z) (i * 2) (gcl x)) (o := (i + 1) * 2) (cs := ((F.drop i).map gcl).flatten) (by omega)
  rw [hd, e1, show (i + 1) * 2 + (F.length - i) * 2 = (F.length + 1) * 2 from by omega] at e2
  rw [e2, ins_flat, List.append_assoc]

set_option maxRecDepth 100000 in
set_option maxHeartbeats 2000000 in
theorem insert_grow {B : Nat} {w : World} {g cap n : Nat} {F : List (Int × Int)} (h : OwnG B w (.slice (some ⟨g, 0, none⟩) n cap) F) (x : Int × Int) (vb : Nat) (hv : Rw w vb (gcl x)) (i : Nat) (hi : i < F.length) (hroom : cap < F.length + 1) (hl : F.length ≤ 900) (hBw : B ≤ w.heap.size) :
    Calls Try.prog 69 #[.slice (some ⟨g, 0, none⟩) n cap, .int .i64 (i : Int), .slice (some ⟨vb, 0, none⟩) 1 1] w fun e w' => ∃ v', e = .returned v' ∧ OwnG B w' v' (F.take i ++ x :: F.drop i) ∧ Below w.heap.size w w' := by
  obtain ⟨L, rfl, hB, hR, hc, hm, hL, hT⟩ := h.rw
  obtain ⟨inf, hin, hzz, hsz, hby⟩ := info_parts infoGap
  have hd : (((F.drop i).map gcl).flatten).length = (F.length - i) * 2 := by rw [gfl, List.length_drop]
  have ht : (((F.take i).map gcl).flatten).length = i * 2 := by rw [gfl, List.length_take]; omega
  have hvl := hv.lt
  have hgl := hR.lt
  have hold : (Builtin.firstCells inf.size i (.slice (some ⟨g, 0, none⟩) i cap)).run Try.prog w.drew = .ok ((F.take i).map gcl).flatten.toArray w.drew := by
    have hR' : Rw w.drew g L := hR.keep rfl
    have := run_loadCells_list (P := Try.prog) w.drew ⟨g, 0, none⟩ ((F.take i).map gcl).flatten (src_of hR' (fun j v e => by
      rw [← gfl_take, ← hT, List.take_take, List.getElem?_take] at e
      split at e
      · rw [Nat.zero_add]; exact e
      · cases e))
    rw [ht] at this
    rw [hsz]
    simpa [Builtin.firstCells] using this
  have hap := fun ty => Lib.run_append_grow_zeros w 44 3 ty 66 inf _ .i64 .i64 Try.underlying44 Try.underlying3 hin hzz (some ⟨g, 0, none⟩) i cap _ hold (F.length + 1 - i) (by omega) (by rw [hsz]; omega) (by omega) (by omega) (by rw [hby]; omega)
    (growslice_fits (by omega) (by rw [hby]; omega))
  rw [show i + (F.length + 1 - i) = F.length + 1 from by omega] at hap
  have hge := grownCap_ge w (F.length + 1) cap 66
  have hle := grownCap_le_maxLen w (F.length + 1) cap 66 (by unfold maxLen; omega)
  obtain ⟨N1, hN1⟩ : ∃ N, F.length + 1 = N := ⟨_, rfl⟩
  rw [hN1] at hap hge hle
  generalize grownCap w N1 cap 66 = cc at hap hge hle
  generalize hZ1 : Builtin.zeroCells (Value.agg #[.int .i64 0, .int .i64 0]).cells (N1 - i) = Z1 at hap
  generalize hZ2 : Builtin.zeroCells (Value.agg #[.int .i64 0, .int .i64 0]).cells (cc - N1) = Z2 at hap
  have hz1 : Z1.size = (N1 - i) * 2 := by rw [← hZ1, size_zeroCells]; rfl
  have hz2 : Z2.size = (cc - N1) * 2 := by rw [← hZ2, size_zeroCells]; rfl
  obtain ⟨W1, hW1⟩ : ∃ W, w.drew.alloc (.cells (((F.take i).map gcl).flatten.toArray ++ Z1 ++ Z2) 66) = W := ⟨_, rfl⟩
  have hQ : Rw W1 w.heap.size (((F.take i).map gcl).flatten ++ (Z1.toList ++ Z2.toList)) := ⟨by rw [← hW1, show w.heap.size = w.drew.heap.size from rfl, heap_alloc_last]; simp⟩
  have hb1 : Below w.heap.size w W1 := by rw [← hW1]; exact (Below.refl _ w).drew.alloc (Nat.le_refl _) _
  rw [hW1] at hap
  generalize hLQ : ((F.take i).map gcl).flatten ++ (Z1.toList ++ Z2.toList) = LQ at hQ
  have hLl : LQ.length = cc * 2 := by rw [← hLQ]; simp only [List.length_append, Array.length_toList, hz1, hz2, ht]; omega
  generalize hq : w.heap.size = q at *
  have hg2 : (gcl x).length = 2 := rfl
  have hF : Hid (∀ w' : World, Rw w' q (sp (sp LQ (i * 2) (gcl x)) ((i + 1) * 2) ((F.drop i).map gcl).flatten) → OwnG B w' (.slice (some ⟨q, 0, none⟩) N1 cc) (F.take i ++ x :: F.drop i)) := fun w' k => by
    have hl := ins_len F (Nat.le_of_lt hi) x
    have := k.own (F := F.take i ++ x :: F.drop i) hBw (by omega) hle (by rw [sp_len (by rw [sp_len (by omega)]; omega), sp_len (by omega)]; exact hLl) (by rw [hl, ← hLQ]; exact grow_cells hi _ (by simp; omega) x)
    rw [hl, hN1] at this
    exact this
  have HA : Hid (∀ W ty, Rw W q LQ → Rw W vb (gcl x) → _) := fun W ty k k2 => k.copy ty (i * 2) (N1 - i) (cc - i) 1 1 ⟨vb, 0, none⟩ (gcl x)
    (by rw [show Nat.min 1 (N1 - i) = 1 from Nat.min_eq_left (by omega)]; rfl) (src_of k2 (fun j u e => by rw [Nat.zero_add]; exact e)) (by omega) (by intro u hu; exact gcl_one [x] u (by simpa using hu))
  have HB : Hid (∀ W ty, Rw W q (sp LQ (i * 2) (gcl x)) → Rw W g L → _) := fun W ty k k2 => k.copy ty ((i + 1) * 2) (N1 - (i + 1)) (cc - (i + 1)) (F.length - i) (cap - i) ⟨g, i * 2, none⟩ ((F.drop i).map gcl).flatten
    (by rw [hd, show N1 - (i + 1) = F.length - i from by omega]; congr 1; exact (Nat.min_self _).symm) (src_drop k2 hT i) (by rw [sp_len (by omega)]; omega) (gcl_one _)
  have hvW : Rw W1 vb (gcl x) := hv.keep (hb1.block vb hvl)
  have hgW : Rw W1 g L := hR.keep (hb1.block g hgl)
  obtain ⟨z2, k2, i1, i2, i3⟩ := HA.out W1 3 hQ hvW
  have hg3 : Rw z2 g L := hgW.keep (i3.block g hgW.lt (by omega))
  have hC0 : Rw z2.drew q (sp LQ (i * 2) (gcl x)) := i2.keep rfl
  have hC1 : Rw z2.drew g L := hg3.keep rfl
  have hb2 : Hid (Below q w z2.drew) := Rest.below (g := q) (hb1.trans ⟨i3.os, i3.tape, i3.output, i3.size, fun k hk => i3.block k (by have := hb1.size; omega) (by omega)⟩) (Rest.of (Below.refl _ z2).drew) (Nat.le_refl _) (by have := hb1.size; have := i3.size; omega)
  obtain ⟨n, hn⟩ : ∃ n, F.length = n := ⟨_, rfl⟩
  have hn9 : n ≤ 900 := by omega
  rw [hn] at hc hroom hi HB hN1 ⊢
  have S1 := fun w' => sl_tail (g := g) (n := n) (c := cap) (k := i) (x := i) rfl (by omega) hc w'
  rw [if_neg (by omega)] at S1
  have S2 := fun w' => sl_upto (g := g) (n := n) (c := cap) (k := i) (x := i) rfl (by omega) w'
  have S3 := fun w' => sl_from (g := q) (n := N1) (c := cc) (k := i) (x := i) rfl (by omega) (by omega) (by omega) w'
  have S4 := fun w' => sl_from (g := q) (n := N1) (c := cc) (k := i + 1) (x := (i : Int) + 1) (by omega) (by omega) (by omega) (by omega) w'
  have hap2 : ∀ ty, (Builtin.append_ #[44, 3] ty #[.slice (some ⟨g, 0, none⟩) i cap, .int .i64 ((n : Int) + 1 - (i : Int))]).run Try.prog w = .ok (.slice (some ⟨q, 0, none⟩) N1 cc) W1 := fun ty => by
    rw [show ((n : Int) + 1 - (i : Int)) = ((N1 - i : Nat) : Int) from by omega]; exact hap ty
  obtain ⟨A, hA⟩ : ∃ A, n - i = A := ⟨_, rfl⟩
  obtain ⟨A2, hA2⟩ : ∃ A, cap - i = A := ⟨_, rfl⟩
  obtain ⟨D, hD⟩ : ∃ A, N1 - i = A := ⟨_, rfl⟩
  obtain ⟨D2, hD2⟩ : ∃ A, cc - i = A := ⟨_, rfl⟩
  obtain ⟨E, hE⟩ : ∃ A, N1 - (i + 1) = A := ⟨_, rfl⟩
  obtain ⟨E2, hE2⟩ : ∃ A, cc - (i + 1) = A := ⟨_, rfl⟩
  rw [hA, hA2] at S1 HB
  rw [hD, hD2] at S3 i1
  rw [hE, hE2] at S4 HB
  have g1 : ((i : Int) == (n : Int)) = false := by simp; omega
  have g2 : decide ((cap : Int) < (n : Int) + 1) = true := by simp; omega
  have hap3 := hap2 44
  have hwr : IntKind.i64.wrap ((i : Int) + 1) = (i : Int) + 1 := by rw [IntKind.wrap_i64]; omega
  replace hA : Hid _ := hA
  replace hD : Hid _ := hD
  replace hA2 : Hid _ := hA2
  replace hD2 : Hid _ := hD2
  replace hE : Hid _ := hE
  replace hE2 : Hid _ := hE2
  replace hN1 : Hid _ := hN1
  replace hn : Hid _ := hn
  clear h hT hL hm hd hl hc hroom hR hap hap2 HA hvW hgW hg3 i2 i3 hLl hle hge hLQ hZ1 hZ2 hz1 hz2 hW1 hQ hb1 hg2 hvl hgl hv
  go_enter Try.func69, Try.ntmps69
  go_upto_region 11 with (first | (at_builtin; refine wpList_app2 rfl (.tmp 34) (.tmp 39) 44 3 rfl rfl rfl hap3 ?_) | (at_builtin; refine wpList_copy2 rfl (.tmp 43) (.tmp 44) 44 44 rfl rfl rfl i1 ?_))
  go_region_held3 (fun _ => True) (trivial)
    (first | (obtain ⟨y1, kk, k1, k2, k3⟩ := HB.out _ 3 hC0 hC1; refine step_copy2 rfl (.tmp 50) (.tmp 53) 44 44 rfl (by simp [Act.eval, Act.put]) (by simp [Act.eval, Act.put]) k1 ?_))
  all_goals
    have hA2 := hb2.out.trans ⟨k3.os, k3.tape, k3.output, k3.size, fun j hj => k3.block j (by have := hC0.lt; omega) (by omega)⟩
    go_wp2
    go_ret
    exact ⟨_, rfl, hF.out _ k2, hA2⟩

theorem insert_any {B : Nat} {w : World} {v : Value} {F : List (Int × Int)} (h : OwnG B w v F) (x : Int × Int) (vb : Nat) (hv : Rw w vb (gcl x)) (hne : ∀ g, v.ownBlock = some g → vb ≠ g) (i : Nat) (hi : i ≤ F.length) (hl : F.length ≤ 900) (hB : B ≤ w.heap.size) :
    Calls Try.prog 69 #[v, .int .i64 (i : Int), .slice (some ⟨vb, 0, none⟩) 1 1] w fun e w' => ∃ v', e = .returned v' ∧ OwnG B w' v' (F.take i ++ x :: F.drop i) ∧ w.grownBy w' v.ownBlock := by
  rcases Nat.lt_or_eq_of_le hi with hlt | rfl
  · rcases h.parts with ⟨_, rfl⟩ | ⟨g, cap, cur, rfl, _⟩
    · cases hlt
    · by_cases hroom : F.length + 1 ≤ cap
      · refine Calls.mono (insert_room h x vb hv (hne g rfl) i hlt hroom hl) ?_
        rintro e w' ⟨rfl, h1, h2⟩
        exact ⟨_, rfl, h1, ⟨h2.os, h2.tape, h2.output, h2.size, fun k hk hkg => h2.block k hk (fun e => hkg (by rw [e]; rfl))⟩⟩
      · refine Calls.mono (insert_grow h x vb hv i hlt (by omega) hl hB) ?_
        rintro e w' ⟨v', rfl, h1, h2⟩
        exact ⟨_, rfl, h1, ⟨h2.os, h2.tape, h2.output, h2.size, fun k hk _ => h2.block k hk⟩⟩
  · refine Calls.mono (insert_end h x vb hv hl hB) ?_
    rintro e w' ⟨v', rfl, h1, h2⟩
    exact ⟨_, rfl, by rw [List.take_length, List.drop_length]; exact h1, h2⟩

end Go.Proofs.Ytmfoenhbldacfaa
