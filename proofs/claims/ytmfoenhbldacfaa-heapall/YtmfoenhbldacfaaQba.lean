import Derived.Test.YtmfoenhbldacfaaQaz
/- slices.Sort, slices.Sorted of few numbers; the numbers of a heap. -/
namespace Go.Proofs.Ytmfoenhbldacfaa
open Go.RowKit
open Go.Sort (swp PermIn SortedIn ltInt)
set_option linter.unusedVariables false
set_option linter.unusedSimpArgs false

theorem sorted_of {n : Nat} {d : Array Int} (h : SortedIn ltInt 0 n d) : ∀ i j, i < j → j < n → d[i]! ≤ d[j]! := by
  intro i j h2 h3
  have := h i j (Nat.zero_le _) h2 h3
  simp only [ltInt, decide_eq_false_iff_not] at this
  omega

set_option maxRecDepth 100000 in
set_option maxHeartbeats 2000000 in
theorem pdqfew_any (g cap n L : Nat) (d : Array Int) (w0 w : World) (h : SW g cap w0 w d) (hn : d.size = n) (hn2 : n ≤ 12) :
    Calls Try.prog 63 #[.slice (some ⟨g, 0, none⟩) n cap, .int .i64 0, .int .i64 (n : Int), .int .i64 (L : Int)] w fun e w' => e = .returned (.tuple #[]) ∧ SW g cap w0 w' (Sort.insertionSort ltInt d 0 n) := by
  have HI := ins_any g cap n 0 n d w0 w h (Nat.zero_le _) (by omega) hn (by omega)
  rw [show ((0 : Nat) : Int) = 0 from rfl] at HI
  replace HI : Hid _ := HI
  have g1 : decide ((n : Int) ≤ 12) = true := by simp; omega
  have g2 : (n : Int) - 0 = (n : Int) := by omega
  clear h hn
  go_enter Try.func63, Try.ntmps63
  go_wp2_with fail
  refine wp_loop_rounds 1 ?_
  rw [rounds_succ]
  go_wp2_with fail
  refine Calls.mono HI.out ?_
  rintro e w1 ⟨rfl, hS1⟩
  go_wp2_with fail
  exact bodyPost_ret (results_none rfl _ _ _) rfl ⟨rfl, hS1⟩
set_option maxRecDepth 100000 in
set_option maxHeartbeats 2000000 in
theorem sortU_any (g cap n : Nat) (d : Array Int) (w0 w : World) (h : SW g cap w0 w d) (hn : d.size = n) (hn2 : n ≤ 12) :
    Calls Try.prog 42 #[.slice (some ⟨g, 0, none⟩) n cap] w fun e w' => e = .returned (.tuple #[]) ∧ ∃ d' : Array Int, d'.size = n ∧ (∀ z, z ∈ d'.toList ↔ z ∈ d.toList) ∧ SortedIn ltInt 0 n d' ∧ SW g cap w0 w' d' := by
  have hu : (n : Int) % 18446744073709551616 = (n : Int) := by omega
  have HI := fun L => pdqfew_any g cap n L d w0 w h hn hn2
  have HLn : Hid (∀ w, _) := fun w => len_any n (by omega) w
  have hbl : Lib.bitLen n ≤ 8 := Lib.bitLen_le8 ⟨n, by omega⟩
  generalize Lib.bitLen n = L at *
  obtain ⟨q1, q2⟩ := Sort.insertionSort_holds Sort.swo_ltInt d 0 n (Nat.zero_le _) (by omega)
  obtain ⟨e2, he2⟩ : ∃ d', Sort.insertionSort ltInt d 0 n = d' := ⟨_, rfl⟩
  rw [he2] at q1 q2 HI
  have HF : Hid (∀ w', SW g cap w0 w' e2 → ∃ d' : Array Int, d'.size = n ∧ (∀ z, z ∈ d'.toList ↔ z ∈ d.toList) ∧ SortedIn ltInt 0 n d' ∧ SW g cap w0 w' d') := fun w' k => by
    subst hn
    refine ⟨_, q1.1, fun z => ?_, q2, k⟩
    have hq := q1.2.2
    rw [show e2.extract 0 d.size = e2 from by rw [← q1.1]; simp, show d.extract 0 d.size = d from by simp] at hq
    exact hq.mem_iff
  replace HI : Hid _ := HI
  clear h q1 q2
  go_enter Try.func42, Try.ntmps42
  go_wp2_with (first | (go_at_call 64; refine (HLn.out _).mono ?_; rintro e w' ⟨rfl, rfl⟩) | fail)
  refine Calls.mono (HI.out _) ?_
  rintro e w1 ⟨rfl, hS⟩
  have hF := HF.out _ hS
  clear HF HI HLn
  go_wp2_with fail
  exact bodyPost_end (results_none rfl _ _ _) rfl ⟨rfl, hF⟩

/-- The slice's block, and what is there but for it. -/
theorem OwnU.sw {B : Nat} {w : World} {v : Value} {l : List Int} (h : OwnU B w v l) (hl : l ≠ []) : ∃ g cap, v = .slice (some ⟨g, 0, none⟩) l.length cap ∧ B ≤ g ∧ l.length ≤ cap ∧ cap ≤ maxLen ∧ SW g cap w w l.toArray := by
  rcases h.2 with ⟨_, h0⟩ | ⟨g, cap, cur, h1, h2, h3, h4, h5, h6, h7⟩
  · exact absurd (List.eq_nil_of_length_eq_zero h0) hl
  · refine ⟨g, cap, h1, h2, h4, h5, ⟨rfl, rfl, rfl, Nat.le_refl _, fun _ _ _ => rfl, ⟨cur, h3, by omega, by simpa using h4, fun j hj => ?_⟩⟩⟩
    have hj' : j < l.length := by simpa using hj
    have e : cur.toList[j]? = (l.map (Value.int .u64))[j]? := by rw [← h7, List.getElem?_take, if_pos (by omega)]
    rw [Array.getElem?_toList] at e
    rw [e, List.getElem?_map, List.getElem?_eq_getElem hj', Option.map_some]
    simp [hj']
theorem SW.ownU {B g cap : Nat} {w0 w : World} {d : Array Int} (h : SW g cap w0 w d) (hB : B ≤ g) (hc : d.size ≤ cap) (hm : cap ≤ maxLen) : OwnU B w (.slice (some ⟨g, 0, none⟩) d.size cap) d.toList := by
  obtain ⟨cur, h3, h4, h5, h6⟩ := h.row
  have hl : d.toList.length = d.size := by simp
  refine ⟨by simp, .inr ⟨g, cap, cur, by rw [hl], hB, h3, by rw [hl]; exact hc, hm, by omega, ?_⟩⟩
  rw [hl]
  apply List.ext_getElem?
  intro j
  rw [List.getElem?_take, Nat.mul_one, List.getElem?_map]
  by_cases hj : j < d.size
  · rw [if_pos hj, Array.getElem?_toList, h6 j hj]
    simp [hj]
  · rw [if_neg hj]
    simp [Nat.le_of_not_lt hj]

set_option maxRecDepth 100000 in
theorem collectU_any {w : World} {gf : Nat} {lb : Array Value} {Ks : List Int} (eg : ∀ args w, (callFunc gf args).run Try.prog w = .ok (.enter gf args) w) (hl : Ks.length ≤ 900) (hs : SeqS Try.prog gf lb (AK Ks) [] (fun s => ∀ x ∈ Ks, x ∈ s) w) :
    Calls Try.prog 41 #[.func (.func gf) #[] lb] w fun e w' => (∃ v l, e = .returned v ∧ OwnU w.heap.size w' v l ∧ l.Nodup ∧ ∀ x, x ∈ l ↔ x ∈ Ks) ∧ Below w.heap.size w w' := by
  have HA : Hid _ := appendSeq_any eg hl hs
  clear hs
  go_enter Try.func41, Try.ntmps41
  go_wp2_with fail
  refine Calls.mono HA.out ?_
  rintro e w1 ⟨⟨v, l, rfl, h1, h2, h3⟩, hb1⟩
  replace h3 : Hid _ := h3
  clear HA
  go_wp2
  go_ret
  exact ⟨⟨v, l, rfl, h1, h2, h3.out⟩, hb1⟩
set_option maxRecDepth 100000 in
theorem keysfn_any (w : World) (pb : Nat) : Calls Try.prog 29 #[.map (some pb)] w fun e w' => e = .returned (.func (.func 43) #[] #[.pointer (some ⟨w.heap.size, 0, none⟩)]) ∧ w' = w.alloc (.cells #[.map (some pb)] 42) := by
  go_enter Try.func29, Try.ntmps29
  go_wp2
  go_ret
  exact ⟨rfl, rfl⟩
set_option maxRecDepth 100000 in
set_option maxHeartbeats 2000000 in
/-- slices.Sorted of a map's keys, few of them and at least one. -/
theorem sortedU_any {w : World} {gf : Nat} {lb : Array Value} {Ks : List Int} (eg : ∀ args w, (callFunc gf args).run Try.prog w = .ok (.enter gf args) w) (hK : Ks.Nodup) (h0 : Ks ≠ []) (hl : Ks.length ≤ 12) (hs : SeqS Try.prog gf lb (AK Ks) [] (fun s => ∀ x ∈ Ks, x ∈ s) w) :
    Calls Try.prog 28 #[.func (.func gf) #[] lb] w fun e w' => (∃ v l, e = .returned v ∧ OwnU w.heap.size w' v l ∧ l.length = Ks.length ∧ (∀ x, x ∈ l ↔ x ∈ Ks) ∧ ∀ i j, i < j → j < l.length → nth l i ≤ nth l j) ∧ Below w.heap.size w w' := by
  have HA : Hid _ := collectU_any eg (by omega) hs
  have HS : Hid (∀ w1 v l, OwnU w.heap.size w1 v l → l.Nodup → (∀ x, x ∈ l ↔ x ∈ Ks) → Below w.heap.size w w1 → ∃ g cap, v = .slice (some ⟨g, 0, none⟩) l.length cap ∧ Calls Try.prog 42 #[.slice (some ⟨g, 0, none⟩) l.length cap] w1 fun e w' => e = .returned (.tuple #[]) ∧ (∃ l', OwnU w.heap.size w' v l' ∧ l'.length = Ks.length ∧ (∀ x, x ∈ l' ↔ x ∈ Ks) ∧ ∀ i j, i < j → j < l'.length → nth l' i ≤ nth l' j) ∧ Below w.heap.size w w') := fun w1 v l k1 k2 k3 k4 => by
    have hll : l.length = Ks.length := nodup_eq k2 hK k3
    have hne : l ≠ [] := fun e => by rw [e] at hll; exact h0 (List.eq_nil_of_length_eq_zero hll.symm)
    obtain ⟨g, cap, e1, e2, e3, e4, e5⟩ := k1.sw hne
    refine ⟨g, cap, e1, Calls.mono (sortU_any g cap l.length l.toArray w1 w1 e5 (by simp) (by omega)) ?_⟩
    rintro e w2 ⟨rfl, d', d1, d2, d3, d4⟩
    have hO := d4.ownU e2 (by omega) e4
    refine ⟨rfl, ⟨d'.toList, ?_, by simp [d1, hll], fun x => by rw [d2]; exact k3 x, fun i j hij hj => ?_⟩, k4.trans ⟨d4.os, d4.tape, d4.output, d4.size, fun k hk => d4.other k (by have := k4.size; omega) (by omega)⟩⟩
    · rw [e1, ← d1]; exact hO
    · have hj' : j < d'.size := by simpa using hj
      have := sorted_of d3 i j hij (by omega)
      have f : ∀ k, k < d'.size → nth d'.toList k = d'[k]! := fun k hk => by simp [nth, hk]
      rw [f i (by omega), f j hj']
      exact this
  clear hs h0 hK hl
  go_enter Try.func28, Try.ntmps28
  go_wp2_with fail
  refine Calls.mono HA.out ?_
  rintro e w1 ⟨⟨v, l, rfl, hO, hn, hm⟩, hb1⟩
  obtain ⟨g, cap, rfl, hC⟩ := HS.out _ _ _ hO hn hm hb1
  replace hC : Hid _ := hC
  clear HS HA hO hm hn
  go_wp2_with fail
  refine Calls.mono hC.out ?_
  rintro e w2 ⟨rfl, ⟨l', q1, q2⟩, hb2⟩
  clear hC
  replace q2 : Hid _ := q2
  go_wp2
  go_ret
  exact ⟨⟨_, l', rfl, q1, q2.out⟩, hb2⟩

set_option maxRecDepth 100000 in
set_option maxHeartbeats 2000000 in
/-- The numbers of a heap with few records, and at least one. -/
theorem hids_any {B : Nat} {w : World} {hb : Nat} {M : Int → Option (List Int)} {N k : Nat} (h : HA B w hb M N k) (h0 : 0 < N) (hN : N ≤ 12) :
    Calls Try.prog 18 #[.pointer (some ⟨hb, 0, none⟩)] w fun e w' => (∃ v l, e = .returned v ∧ OwnU w.heap.size w' v l ∧ l.length = N ∧ (∀ x, x ∈ l ↔ M x ≠ none) ∧ ∀ i j, i < j → j < l.length → nth l i ≤ nth l j) ∧ Below w.heap.size w w' := by
  obtain ⟨H, rfl, hI, hp, hW, hM, hlen, hnx⟩ := h.ex
  obtain ⟨pb, hpb⟩ : ∃ pb, H.pm = some pb := by
    cases e : H.pm with
    | none => rw [hI.pnil e] at hlen; simp at hlen; omega
    | some pb => exact ⟨pb, rfl⟩
  have c0 : w.cell? ⟨H.hb, 0, none⟩ = some (.map (some pb)) := (hI.cells.1).trans (congrArg (fun x => some (Value.map x)) hpb)
  obtain ⟨hB, hMb⟩ := hI.pmap hpb
  obtain ⟨es, cl, hes, hk1, hk2, hk3⟩ := hMb.ex
  have hE : Es es cl (ks H.P) := ⟨by
    have := congrArg (List.map Prod.fst) hk1
    rw [List.map_map, List.map_map] at this
    rw [ks, List.map_map]
    exact this, hI.kp, hk2, hk3⟩
  have HS : Hid (∀ q w1, Below w.heap.size w w1 → w1.cell? ⟨q, 0, none⟩ = some (.map (some pb)) → Calls Try.prog 28 #[.func (.func 43) #[] #[.pointer (some ⟨q, 0, none⟩)]] w1 fun e w' => (∃ v l, e = .returned v ∧ OwnU w.heap.size w' v l ∧ l.length = N ∧ (∀ x, x ∈ l ↔ M x ≠ none) ∧ ∀ i j, i < j → j < l.length → nth l i ≤ nth l j) ∧ Below w.heap.size w w') := fun q w1 k1 k2 => by
    refine Calls.mono (sortedU_any (by intro args w'; kernel_rfl) hI.kp (by intro e; have := ks_len H.P; rw [e] at this; simp at this; omega) (by rw [ks_len]; omega) (keys_any hE k2 ((k1.block pb hMb.lt).trans hes))) ?_
    rintro e w2 ⟨⟨v, l, rfl, q1, q2, q3, q4⟩, hb2⟩
    refine ⟨⟨v, l, rfl, ⟨q1.1, q1.2.imp id (by
      rintro ⟨g, cap, cur, e1, e2, r⟩
      exact ⟨g, cap, cur, e1, Nat.le_trans k1.size e2, r⟩)⟩, by rw [q2, ks_len]; exact hlen, fun x => by rw [q3, hW.rcd_key hI.kp hI.kg, hM], q4⟩, bthen k1 hb2⟩
  clear h hI hp hW hM hlen hB hMb hes hk1 hk2 hk3 hE
  go_enter Try.func18, Try.ntmps18
  go_wp2_with fail
  refine Calls.mono (keysfn_any w pb) ?_
  rintro e w1 ⟨rfl, rfl⟩
  have hb0 : Below w.heap.size w (w.alloc (.cells #[.map (some pb)] 42)) := (Below.refl _ _).alloc (Nat.le_refl _) _
  have HS2 : Hid _ := HS.out w.heap.size _ hb0 (cell_of_row _ _ _ _ _ _ (heap_alloc_last w _))
  clear HS
  go_wp2_with fail
  refine Calls.mono HS2.out ?_
  rintro e w2 ⟨⟨v, l, rfl, q1, q2⟩, hb2⟩
  replace q2 : Hid _ := q2
  clear HS2
  go_wp2
  go_ret
  exact ⟨⟨v, l, rfl, q1, q2.out⟩, hb2⟩

end Go.Proofs.Ytmfoenhbldacfaa
