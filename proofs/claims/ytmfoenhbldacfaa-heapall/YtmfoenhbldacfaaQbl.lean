import Derived.Test.YtmfoenhbldacfaaQbk
/- The numbers of a heap with up to 200 records, or with none. -/
namespace Go.Proofs.Ytmfoenhbldacfaa
open Go.RowKit Go.Shelf
open Go.Sort (swp PermIn SortedIn ltInt)
set_option linter.unusedVariables false
set_option linter.unusedSimpArgs false
attribute [local go_sem] Oper.semAt_some

theorem range_noneP (w : World) : (Instr.range 42 (.map none)).run Try.prog w = .ok (.pointer (some ⟨w.heap.size, 0, none⟩)) (w.alloc (.mapIter none 0 #[] 0)) := by kernel_rfl

set_option maxRecDepth 100000 in
set_option maxHeartbeats 2000000 in
theorem keysno_any {w0 : World} {q : Nat} (hq : w0.cell? ⟨q, 0, none⟩ = some (.map none)) :
    SeqS Try.prog 43 #[.pointer (some ⟨q, 0, none⟩)] (AK []) [] (fun s => ∀ x ∈ ([] : List Int), x ∈ s) w0 := by
  intro l J Jx W hW hY h0
  have hql : q < w0.heap.size := World.block_lt_of_cell? _ _ hq
  have hWq : W.cell? ⟨q, 0, none⟩ = some (.map none) := (hW.cell hql).trans hq
  have hrg := range_noneP W
  have hbA : Below W.heap.size W (W.alloc (.mapIter none 0 #[] 0)) := (Below.refl _ _).alloc (Nat.le_refl _) _
  have HG0 : Hid (Gr W.heap.size W (W.alloc (.mapIter none 0 #[] 0))) := hid (Gr.of_below hbA)
  have HB0 : Below w0.heap.size w0 (W.alloc (.mapIter none 0 #[] 0)) := hW.trans (hbA.mono hW.size)
  have hnx : ∀ ty, (Instr.next (.pointer (some ⟨W.heap.size, 0, none⟩)) false ty).run Try.prog (W.alloc (.mapIter none 0 #[] 0)) = .ok (.tuple #[.bool false]) (W.alloc (.mapIter none 0 #[] 0)) := fun ty => next_none (heap_alloc_last W _) ty
  have HJ0 : Hid (J [] W) := hid h0
  clear hY hq h0 hbA
  refine (callsIn_wide (n := 0)).1 (callsIn_of_wp Try.func43 rfl trivial ?_)
  simp only [Try.ntmps43, List.size_toArray, List.length_cons, List.length_nil, Nat.reduceAdd, Nat.reduceSub, Array.replicate_succ, Array.replicate_zero, List.push_toArray, List.append_toArray, List.nil_append, List.cons_append]
  gi_wp2
  clear hrg hWq
  generalize hrr : W.heap.size = r at *
  generalize (W.alloc (.mapIter none 0 #[] 0)) = V at *
  gi_loopw [3] (fun _ wr => wr = V) (fun _ wr => 0)
  case atStart => rfl
  case round =>
    subst hrel
    have hnx2 := hnx 0
    gi_wp2
    refine bodyPost_end (results_none rfl _ _ _) rfl ?_
    exact ⟨⟨_, rfl⟩, HB0, W, by rw [hrr]; exact HG0.out, .inl ⟨[], (fun x h => by cases h), HJ0.out⟩⟩

set_option maxRecDepth 100000 in
set_option maxHeartbeats 2000000 in
theorem insnil_any (w : World) : Calls Try.prog 72 #[.slice none 0 0, .int .i64 0, .int .i64 0] w fun e w' => e = .returned (.tuple #[]) ∧ w' = w := by
  go_enter Try.func72, Try.ntmps72
  go_wp2_with fail
  refine wp_loop_rounds 1 ?_
  rw [rounds_succ]
  go_wp2_with fail
  go_end0
  exact ⟨rfl, rfl⟩
set_option maxRecDepth 100000 in
set_option maxHeartbeats 2000000 in
theorem pdqnil_any (L : Nat) (w : World) : Calls Try.prog 63 #[.slice none 0 0, .int .i64 0, .int .i64 0, .int .i64 (L : Int)] w fun e w' => e = .returned (.tuple #[]) ∧ w' = w := by
  have HI : Hid _ := hid (insnil_any w)
  go_enter Try.func63, Try.ntmps63
  go_wp2_with fail
  refine wp_loop_rounds 1 ?_
  rw [rounds_succ]
  go_wp2_with fail
  refine Calls.mono HI.out ?_
  rintro e w1 ⟨rfl, rfl⟩
  go_wp2_with fail
  exact bodyPost_ret (results_none rfl _ _ _) rfl ⟨rfl, rfl⟩
set_option maxRecDepth 100000 in
set_option maxHeartbeats 2000000 in
theorem sortnil_any (w : World) : Calls Try.prog 42 #[.slice none 0 0] w fun e w' => e = .returned (.tuple #[]) ∧ w' = w := by
  have HL := len_any 0 (by omega)
  have HI : Hid _ := hid (fun L => pdqnil_any L w)
  have e0 : ((0 : Nat) : Int) = 0 := rfl
  rw [e0] at HL
  replace HL : Hid _ := hid HL
  go_enter Try.func42, Try.ntmps42
  go_wp2_with fail
  refine Calls.mono (HL.out _) ?_
  rintro e w' ⟨rfl, rfl⟩
  go_wp2_with fail
  refine Calls.mono (HI.out _) ?_
  rintro e w1 ⟨rfl, rfl⟩
  clear HI
  go_wp2_with fail
  exact bodyPost_end (results_none rfl _ _ _) rfl ⟨rfl, rfl⟩

/-- slices.Sort of a row of the call's own. -/
theorem sortOwn_any {B : Nat} {w : World} {v : Value} {l : List Int} (h : OwnU B w v l) (hl : l.length ≤ 200) :
    Calls Try.prog 42 #[v] w fun e w' => e = .returned (.tuple #[]) ∧ (∃ l', OwnU B w' v l' ∧ l'.length = l.length ∧ (∀ x, x ∈ l' ↔ x ∈ l) ∧ ∀ i j, i < j → j < l'.length → nth l' i ≤ nth l' j) ∧ ∃ g, Rest g w w' ∧ B ≤ g := by
  by_cases hz : v = .slice none 0 0
  · subst hz
    have h0 : l = [] := by
      rcases h.2 with ⟨_, h0⟩ | ⟨g, cap, cur, h1, _⟩
      · exact List.eq_nil_of_length_eq_zero h0
      · cases h1
    subst h0
    refine Calls.mono (sortnil_any w) ?_
    rintro e w' ⟨rfl, rfl⟩
    exact ⟨rfl, ⟨[], h, rfl, fun x => Iff.rfl, fun i j _ hj => by simp at hj⟩, B, Rest.refl _ _, Nat.le_refl _⟩
  · rcases h.2 with ⟨h1, _⟩ | ⟨g, cap, cur, rfl, h2, h3, h4, h5, h6, h7⟩
    · exact absurd h1 hz
    · have hSW : SW g cap w w l.toArray := ⟨rfl, rfl, rfl, Nat.le_refl _, fun _ _ _ => rfl, ⟨cur, h3, by omega, by simpa using h4, fun j hj => by
        have hj' : j < l.length := by simpa using hj
        have e : cur.toList[j]? = (l.map (Value.int .u64))[j]? := by rw [← h7, List.getElem?_take, if_pos (by omega)]
        rw [Array.getElem?_toList] at e
        rw [e, List.getElem?_map, List.getElem?_eq_getElem hj', Option.map_some]
        simp [hj']⟩⟩
      refine Calls.mono (sort_many g cap l.length l.toArray w w hSW (by simp) hl) ?_
      rintro e w2 ⟨rfl, d', d1, d2, d3, d4⟩
      have hO := d4.ownU h2 (by omega) h5
      rw [d1] at hO
      refine ⟨rfl, ⟨d'.toList, hO, by simp [d1], fun x => by rw [d2], fun i j hij hj => ?_⟩, g, ⟨d4.os, d4.tape, d4.output, d4.size, fun k hk hne => d4.other k hk hne⟩, h2⟩
      have hj' : j < d'.size := by simpa using hj
      have := sorted_of d3 i j hij (by omega)
      have f : ∀ k, k < d'.size → nth d'.toList k = d'[k]! := fun k hk => by simp [nth, hk]
      rw [f i (by omega), f j hj']
      exact this

set_option maxRecDepth 100000 in
set_option maxHeartbeats 2000000 in
/-- slices.Sorted of a map's keys. -/
theorem sortedX_any {w : World} {gf : Nat} {lb : Array Value} {Ks : List Int} (eg : ∀ args w, (callFunc gf args).run Try.prog w = .ok (.enter gf args) w) (hK : Ks.Nodup) (hl : Ks.length ≤ 200) (hs : SeqS Try.prog gf lb (AK Ks) [] (fun s => ∀ x ∈ Ks, x ∈ s) w) :
    Calls Try.prog 28 #[.func (.func gf) #[] lb] w fun e w' => (∃ v l, e = .returned v ∧ OwnU w.heap.size w' v l ∧ l.length = Ks.length ∧ (∀ x, x ∈ l ↔ x ∈ Ks) ∧ ∀ i j, i < j → j < l.length → nth l i ≤ nth l j) ∧ Below w.heap.size w w' := by
  have HA : Hid _ := hid (collectU_any eg (by omega) hs)
  have HS : Hid (∀ w1 v l, OwnU w.heap.size w1 v l → l.Nodup → (∀ x, x ∈ l ↔ x ∈ Ks) → Below w.heap.size w w1 → Calls Try.prog 42 #[v] w1 fun e w' => e = .returned (.tuple #[]) ∧ (∃ l', OwnU w.heap.size w' v l' ∧ l'.length = Ks.length ∧ (∀ x, x ∈ l' ↔ x ∈ Ks) ∧ ∀ i j, i < j → j < l'.length → nth l' i ≤ nth l' j) ∧ Below w.heap.size w w') := fun w1 v l k1 k2 k3 k4 => by
    have hll : l.length = Ks.length := nodup_eq k2 hK k3
    refine Calls.mono (sortOwn_any k1 (by omega)) ?_
    rintro e w2 ⟨rfl, ⟨l', p1, p2, p3, p4⟩, g, hr, hg⟩
    exact ⟨rfl, ⟨l', p1, by omega, fun x => by rw [p3, k3], p4⟩, Rest.below k4 hr hg k4.size⟩
  clear hs hK hl
  go_enter Try.func28, Try.ntmps28
  go_wp2_with fail
  refine Calls.mono HA.out ?_
  rintro e w1 ⟨⟨v, l, rfl, hO, hn, hm⟩, hb1⟩
  have hC : Hid _ := hid (HS.out _ _ _ hO hn hm hb1)
  obtain ⟨ao, c, rfl, -⟩ := hO.cellsE
  clear HS HA hO hm hn
  go_wp2_with fail
  refine Calls.mono hC.out ?_
  rintro e w2 ⟨rfl, ⟨l', q1, q2⟩, hb2⟩
  clear hC
  replace q2 : Hid _ := hid q2
  go_wp2
  go_ret
  exact ⟨⟨_, l', rfl, q1, q2.out⟩, hb2⟩

set_option maxRecDepth 100000 in
set_option maxHeartbeats 2000000 in
theorem keysfno_any (w : World) (ob : Option Nat) : Calls Try.prog 29 #[.map ob] w fun e w' => e = .returned (.func (.func 43) #[] #[.pointer (some ⟨w.heap.size, 0, none⟩)]) ∧ w' = w.alloc (.cells #[.map ob] 42) := by
  go_enter Try.func29, Try.ntmps29
  go_wp2
  go_ret
  exact ⟨rfl, rfl⟩

set_option maxRecDepth 100000 in
set_option maxHeartbeats 2000000 in
/-- The numbers of a heap. -/
theorem idsX_any {B : Nat} {w : World} {hb : Nat} {M : Int → Option (List Int)} {N k : Nat} (h : HA B w hb M N k) (hN : N ≤ 200) :
    Calls Try.prog 18 #[.pointer (some ⟨hb, 0, none⟩)] w fun e w' => (∃ v l, e = .returned v ∧ OwnU w.heap.size w' v l ∧ l.length = N ∧ (∀ x, x ∈ l ↔ M x ≠ none) ∧ ∀ i j, i < j → j < l.length → nth l i ≤ nth l j) ∧ Below w.heap.size w w' := by
  obtain ⟨H, rfl, hI, hp, hW, hM, hlen, hnx⟩ := h.ex
  obtain ⟨ob, hpb⟩ : ∃ ob, H.pm = ob := ⟨_, rfl⟩
  have c0 : w.cell? ⟨H.hb, 0, none⟩ = some (.map ob) := (hI.cells.1).trans (congrArg (fun x => some (Value.map x)) hpb)
  have HS : Hid (∀ q w1, Below w.heap.size w w1 → w1.cell? ⟨q, 0, none⟩ = some (.map ob) → Calls Try.prog 28 #[.func (.func 43) #[] #[.pointer (some ⟨q, 0, none⟩)]] w1 fun e w' => (∃ v l, e = .returned v ∧ OwnU w.heap.size w' v l ∧ l.length = N ∧ (∀ x, x ∈ l ↔ M x ≠ none) ∧ ∀ i j, i < j → j < l.length → nth l i ≤ nth l j) ∧ Below w.heap.size w w') := fun q w1 k1 k2 => by
    have HSeq : SeqS Try.prog 43 #[.pointer (some ⟨q, 0, none⟩)] (AK (ks H.P)) [] (fun s => ∀ x ∈ ks H.P, x ∈ s) w1 := by
      cases ob with
      | none =>
        rw [hI.pnil hpb]
        exact keysno_any k2
      | some pb =>
        obtain ⟨hB, hMb⟩ := hI.pmap hpb
        obtain ⟨es, cl, hes, hk1, hk2, hk3⟩ := hMb.ex
        have hE : Es es cl (ks H.P) := ⟨by
          have := congrArg (List.map Prod.fst) hk1
          rw [List.map_map, List.map_map] at this
          rw [ks, List.map_map]
          exact this, hI.kp, hk2, hk3⟩
        exact keys_any hE k2 ((k1.block pb hMb.lt).trans hes)
    refine Calls.mono (sortedX_any (by intro args w'; kernel_rfl) hI.kp (by rw [ks_len]; omega) HSeq) ?_
    rintro e w2 ⟨⟨v, l, rfl, q1, q2, q3, q4⟩, hb2⟩
    refine ⟨⟨v, l, rfl, ⟨q1.1, q1.2.imp id (by
      rintro ⟨g, cap, cur, e1, e2, r⟩
      exact ⟨g, cap, cur, e1, Nat.le_trans k1.size e2, r⟩)⟩, by rw [q2, ks_len]; exact hlen, fun x => by rw [q3, hW.rcd_key hI.kp hI.kg, hM], q4⟩, bthen k1 hb2⟩
  clear h hI hp hW hM hlen hpb
  go_enter Try.func18, Try.ntmps18
  go_wp2_with fail
  refine Calls.mono (keysfno_any w ob) ?_
  rintro e w1 ⟨rfl, rfl⟩
  have hb0 : Below w.heap.size w (w.alloc (.cells #[.map ob] 42)) := (Below.refl _ _).alloc (Nat.le_refl _) _
  have HS2 : Hid _ := hid (HS.out w.heap.size _ hb0 (cell_of_row _ _ _ _ _ _ (heap_alloc_last w _)))
  clear HS
  go_wp2_with fail
  refine Calls.mono HS2.out ?_
  rintro e w2 ⟨⟨v, l, rfl, q1, q2⟩, hb2⟩
  replace q2 : Hid _ := hid q2
  clear HS2
  go_wp2
  go_ret
  exact ⟨⟨v, l, rfl, q1, q2.out⟩, hb2⟩

end Go.Proofs.Ytmfoenhbldacfaa
