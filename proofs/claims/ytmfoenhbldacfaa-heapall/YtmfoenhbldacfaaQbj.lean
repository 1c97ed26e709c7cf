import Derived.Test.YtmfoenhbldacfaaQbi
/- HeapFits. -/
namespace Go.Proofs.Ytmfoenhbldacfaa
open Go.RowKit
set_option linter.unusedVariables false
set_option linter.unusedSimpArgs false

set_option maxRecDepth 100000 in
theorem findnil_any (id : Int) (w : World) : Calls Try.prog 23 #[.pointer none, .int .u64 id] w fun e w' => e = .returned (.tuple #[.agg #[.int .i64 0, .int .i64 0], .int .i64 1]) ∧ Below w.heap.size w w' := by
  have hb0 : Below w.heap.size w (w.alloc (.cells #[.int .i64 0, .int .i64 0] 57)) := (Below.refl _ _).alloc (Nat.le_refl _) _
  go_enter Try.func23, Try.ntmps23
  go_wp2
  refine bodyPost_ret (v := .tuple #[.agg #[.int .i64 0, .int .i64 0], .int .i64 1]) (by simp [results, Try.results23, go_sem]) rfl ⟨rfl, hb0⟩
set_option maxRecDepth 100000 in
theorem getnil_any (id : Int) (w : World) : Calls Try.prog 15 #[.pointer none, .int .u64 id] w fun e w' => e = .returned (.tuple #[.slice none 0 0, .int .i64 1]) ∧ Below w.heap.size w w' := by
  have HF : Hid _ := findnil_any id w
  go_enter Try.func15, Try.ntmps15
  go_wp2_with fail
  refine Calls.mono HF.out ?_
  rintro e w1 ⟨rfl, hb1⟩
  have hb2 : Below w.heap.size w (w1.alloc (.cells #[.int .i64 0, .int .i64 0] 57)) := hb1.alloc hb1.size _
  go_wp2
  go_ret2
  exact ⟨rfl, hb2⟩
set_option maxRecDepth 100000 in
theorem putnil_any (id : Int) (v : Value) (w : World) : Calls Try.prog 9 #[.pointer none, .int .u64 id, v] w fun e w' => e = .returned (.int .i64 1) ∧ w' = w := by
  go_enter Try.func9, Try.ntmps9
  go_wp2
  go_ret
  exact ⟨rfl, rfl⟩
set_option maxRecDepth 100000 in
theorem dropnil_any (id : Int) (w : World) : Calls Try.prog 12 #[.pointer none, .int .u64 id] w fun e w' => e = .returned (.int .i64 1) ∧ Below w.heap.size w w' := by
  have HF : Hid _ := findnil_any id w
  go_enter Try.func12, Try.ntmps12
  go_wp2_with fail
  refine Calls.mono HF.out ?_
  rintro e w1 ⟨rfl, hb1⟩
  have hb2 : Below w.heap.size w (w1.alloc (.cells #[.int .i64 0, .int .i64 0] 57)) := hb1.alloc hb1.size _
  go_wp2
  go_ret
  exact ⟨rfl, hb2⟩
set_option maxRecDepth 100000 in
theorem idsnil_any (w : World) : Calls Try.prog 18 #[.pointer none] w fun e w' => e = .returned (.slice none 0 0) ∧ w' = w := by
  go_enter Try.func18, Try.ntmps18
  go_wp2
  go_ret
  exact ⟨rfl, rfl⟩
set_option maxRecDepth 100000 in
theorem lennil_any (w : World) : Calls Try.prog 16 #[.pointer none] w fun e w' => e = .returned (.int .i64 0) ∧ w' = w := by
  go_enter Try.func16, Try.ntmps16
  go_wp2
  go_ret
  exact ⟨rfl, rfl⟩
set_option maxRecDepth 100000 in
theorem pagesnil_any (w : World) : Calls Try.prog 17 #[.pointer none] w fun e w' => e = .returned (.int .i64 0) ∧ w' = w := by
  go_enter Try.func17, Try.ntmps17
  go_wp2
  go_ret
  exact ⟨rfl, rfl⟩
set_option maxRecDepth 100000 in
theorem copynil_any (w : World) : Calls Try.prog 13 #[.pointer none] w fun e w' => e = .returned (.pointer none) ∧ w' = w := by
  go_enter Try.func13, Try.ntmps13
  go_wp2
  go_ret
  exact ⟨rfl, rfl⟩

theorem info8 : (Try.prog.info? 5).map (fun i => (i.zero, i.size, i.bytes)) = some (some (.int .u8 0), 1, 1) := by kernel_rfl
/-- Zeros, as cells. -/
def zcs (k : Nat) : Array Value := ((List.replicate k (0 : Int)).map (Value.int .u8)).toArray
theorem mkb_any (k : Nat) (h : k ≤ 100000) (w : World) : (Instr.makeSlice 31 (.int .i64 (k : Int)) (.int .i64 (k : Int))).run Try.prog w = .ok (.slice (some ⟨w.heap.size, 0, none⟩) k k) (w.alloc (.cells (zcs k) 5)) := by
  obtain ⟨i, hi, hz, hs, hb⟩ := info_parts info8
  have hr := run_make (P := Try.prog) w 31 5 i (.int .u8 0) Try.underlying31 hi hz .i64 .i64 (k : Int) (k : Int) (by omega) (by omega) (by rw [hb]; omega) (by omega)
  rw [hr, hs]
  have e : madeCells (Value.int .u8 0).cells ((k : Int).toNat * 1) = zcs k := by
    rw [show (Value.int .u8 0).cells = #[Value.int .u8 0] from rfl, zcs]
    apply Array.ext
    · simp [madeCells]
    · intro j h1 h2
      simp [madeCells, Nat.mod_one]
  rw [e]
  simp

/-- The first i numbers have k zeros each. -/
def zM (k i : Nat) : Int → Option (List Int) := fun j => if 0 ≤ j ∧ j < (i : Int) then some (List.replicate k 0) else none
theorem zM_succ (k i : Nat) : (fun j => if j = (i : Int) then some (List.replicate k 0) else zM k i j) = zM k (i + 1) := by
  funext j
  unfold zM
  by_cases h : j = (i : Int)
  · rw [if_pos h, if_pos (by omega)]
  · rw [if_neg h]
    by_cases h2 : 0 ≤ j ∧ j < (i : Int)
    · rw [if_pos h2, if_pos (by omega)]
    · rw [if_neg h2, if_neg (by omega)]
theorem zM_self (k i : Nat) : zM k i (i : Int) = none := by unfold zM; rw [if_neg (by omega)]
theorem zM_zero (k : Nat) : zM k 0 = fun _ => none := by
  funext j
  unfold zM
  rw [if_neg (by omega)]

set_option maxRecDepth 100000 in
set_option maxHeartbeats 4000000 in
theorem heapFits_any (n s : Nat) (hn : n ≤ 255) (hs : s ≤ 255) (w : World) :
    Calls Try.prog 4 #[.int .u8 (n : Int), .int .u8 (s : Int)] w fun e w' => e = .returned (.bool true) ∧ Below w.heap.size w w' := by
  have HB : Hid _ := begun14_any w
  have HN : Hid (∀ w1, Below w.heap.size w w1 → _) := fun w1 k => hnew_any w1 w.heap.size k.size
  go_enter Try.func4, Try.ntmps4
  go_wp2_with fail
  refine Calls.mono HB.out ?_
  rintro e w1 ⟨rfl, hb1⟩
  have K1 : Hid _ := HN.out w1 hb1
  clear HB HN
  go_wp2_with fail
  refine Calls.mono K1.out ?_
  rintro e w2 ⟨hb, rfl, hA2, hb2⟩
  have hB2 : Below w.heap.size w w2 := bthen hb1 hb2
  clear K1 hb1 hb2
  have HP : Hid (∀ (j k : Nat) w1, j ≤ 255 → 1 ≤ k → k ≤ 100 → HA w.heap.size w1 hb (zM k j) j j → Calls Try.prog 9 #[.pointer (some ⟨hb, 0, none⟩), .int .u64 (j : Int), .slice (some ⟨w1.heap.size, 0, none⟩) k k] (w1.alloc (.cells (zcs k) 5)) fun e w' => e = .returned (.int .i64 0) ∧ HA w.heap.size w' hb (zM k (j + 1)) (j + 1) (j + 1) ∧ Ft w.heap.size noX w1 w') := fun j k w1 h1 h2 h3 h4 => by
    have := put_new h4 (j : Int) (List.replicate k 0) (fun x hx => by rw [List.eq_of_mem_replicate hx]; omega) (by intro e; have := congrArg List.length e; simp at this; omega) (by simp; omega) (by omega) (by omega)
    rw [zM_succ, if_pos (zM_self k j), List.length_replicate] at this
    exact this
  go_wp2_with fail
  obtain ⟨k, hk, hk1, hk2⟩ : ∃ k : Nat, (1 + (s : Int) % 100) = (k : Int) ∧ 1 ≤ k ∧ k ≤ 100 := ⟨1 + s % 100, by omega, by omega, by omega⟩
  rw [hk]
  have hA0 : HA w.heap.size w2 hb (zM k 0) 0 0 := by rw [zM_zero]; exact hA2
  replace hk : Hid _ := hk
  clear hA2
  go_loopw [7] (fun i wr => ∃ j : Nat, j ≤ n ∧ i = .int .i64 (j : Int) ∧ HA w.heap.size wr hb (zM k j) j j ∧ Below w.heap.size w wr) (fun i _ => n - (intOf i).toNat)
  case atStart => exact ⟨0, Nat.zero_le _, rfl, hA0, hB2⟩
  case round =>
    obtain ⟨j, hj, rfl, hA, hB⟩ := hrel
    clear hA0 hB2
    by_cases hlt : j < n
    · have g1 : decide ((j : Int) < (n : Int)) = true := by simpa using hlt
      have K2 : Hid _ := HP.out j k wr (by omega) hk1 hk2 hA
      have HMK := mkb_any k (by omega)
      clear hA
      go_wp2_with fail
      refine Calls.mono K2.out ?_
      rintro e w4 ⟨rfl, hA4, hf4⟩
      have hB4 : Below w.heap.size w w4 := Ft.below hB hf4 hB.size
      clear K2 hf4
      go_wp2
      go_roundw
      case rel => exact ⟨j + 1, hlt, by go_num, hA4, hB4⟩
      case measure => simp [intOf]; omega
    · obtain rfl : j = n := by omega
      have g1 : decide ((j : Int) < (j : Int)) = false := by simp
      have G1 : Hid (∀ w1, _) := fun w1 => getnil_any 1 w1
      clear HP
      go_wp2_with fail
      refine Calls.mono (G1.out _) ?_
      rintro e w4 ⟨rfl, hb4⟩
      clear G1
      have hA4 := hA.later hb4
      have hB4 : Below w.heap.size w w4 := bthen hB hb4
      have hb5 : Below w4.heap.size w4 (w4.alloc (.cells #[.map none, .map none, .slice none 0 0, .int .i64 0] 46)) := (Below.refl _ _).alloc (Nat.le_refl _) _
      have hZ := hnew_ha w4 w4.heap.size (Nat.le_refl _)
      have hA5 := hA4.later hb5
      have hB5 : Below w.heap.size w (w4.alloc (.cells #[.map none, .map none, .slice none 0 0, .int .i64 0] 46)) := bthen hB4 hb5
      generalize hV : (w4.alloc (.cells #[.map none, .map none, .slice none 0 0, .int .i64 0] 46)) = V at *
      have KL : Hid _ := hlen_any hA5
      have KP : Hid _ := hpages_any hA5
      obtain ⟨zb, hzb⟩ : ∃ z, w4.heap.size = z := ⟨_, rfl⟩
      rw [hzb] at hZ
      have hzV : zb ≤ V.heap.size := hZ.bw
      have hwz : w.heap.size ≤ zb := by rw [← hzb]; exact hB4.size
      have HPZ : Hid (∀ w1, HA zb w1 zb (fun _ => none) 0 0 → Calls Try.prog 9 #[.pointer (some ⟨zb, 0, none⟩), .int .u64 1, .slice (some ⟨w1.heap.size, 0, none⟩) 1 1] (w1.alloc (.cells #[.int .u8 1] 5)) fun e w' => e = .returned (.int .i64 0) ∧ HA zb w' zb (fun j => if j = 1 then some [1] else none) 1 1 ∧ Ft zb noX w1 w') := fun w1 k => put_new k 1 [1] (fun x hx => by simp at hx; omega) (by simp) (by decide) (by omega) (by omega)
      have P1 : Hid (∀ v w1, _) := fun v w1 => putnil_any 1 v w1
      have P2 : Hid (∀ w1, _) := fun w1 => dropnil_any 1 w1
      have P3 : Hid (∀ w1, _) := fun w1 => idsnil_any w1
      have P4 : Hid (∀ w1, _) := fun w1 => lennil_any w1
      have P5 : Hid (∀ w1, _) := fun w1 => pagesnil_any w1
      have P6 : Hid (∀ w1, _) := fun w1 => copynil_any w1
      have g2 : ((j : Int) == (j : Int)) = true := by simp
      clear hA hA4 hA5 hb4 hb5 hB hB4
      go_wp2_with fail

      refine Calls.mono KL.out ?_
      rintro e x ⟨rfl, hx⟩
      rw [hx]
      clear hx x
      clear KL hV
      go_wp2_with fail
      refine Calls.mono KP.out ?_
      rintro e x ⟨⟨p, rfl, hp⟩, hx⟩
      rw [hx]
      clear hx x
      have g3 : decide ((p : Int) ≤ (j : Int) + 1) = true := by simp; omega
      clear KP
      go_wp2_with fail
      refine Calls.mono (P1.out _ _) ?_
      rintro e x ⟨rfl, hx⟩
      rw [hx]
      clear hx x
      have hV1 : Below V.heap.size V (V.alloc (.cells #[.int .u8 1] 5)) := (Below.refl _ _).alloc (Nat.le_refl _) _
      go_wp2_with fail
      refine Calls.mono (P2.out _) ?_
      rintro e w5 ⟨rfl, hb5⟩
      have hVb := bthen hV1 hb5
      have hZ5 := hZ.later hVb
      have hB6 : Below w.heap.size w w5 := bthen hB5 hVb
      have KZ : Hid _ := HPZ.out w5 hZ5
      clear hV1 hb5 hVb hZ hB5 HPZ P1 P2
      go_wp2_with fail
      refine Calls.mono (P3.out _) ?_
      rintro e x ⟨rfl, hx⟩
      rw [hx]
      clear hx x
      go_wp2_with fail
      refine Calls.mono (P4.out _) ?_
      rintro e x ⟨rfl, hx⟩
      rw [hx]
      clear hx x
      go_wp2_with fail
      refine Calls.mono (P5.out _) ?_
      rintro e x ⟨rfl, hx⟩
      rw [hx]
      clear hx x
      go_wp2_with fail
      refine Calls.mono (P6.out _) ?_
      rintro e x ⟨rfl, hx⟩
      rw [hx]
      clear hx x
      clear P3 P4 P5 P6
      go_wp2_with fail
      refine Calls.mono KZ.out ?_
      rintro e w6 ⟨rfl, hZ6, hf6⟩
      have hB7 : Below w.heap.size w w6 := by
        have hz5 := hZ5.bw
        exact hB6.trans ((Ft.below (Below.refl zb _) hf6 hz5).mono hwz)
      have KZL : Hid _ := hlen_any hZ6
      clear KZ hZ6 hf6 hZ5 hB6
      go_wp2_with fail
      refine Calls.mono KZL.out ?_
      rintro e x ⟨rfl, hx⟩
      rw [hx]
      clear hx x
      clear KZL
      go_wp2
      go_ret
      exact ⟨rfl, hB7⟩

end Go.Proofs.Ytmfoenhbldacfaa
/- A heap's copy. -/
namespace Go.Proofs.Ytmfoenhbldacfaa
open Go.RowKit
open Go.ChangeMaps (setBlock)
set_option linter.unusedVariables false
set_option linter.unusedSimpArgs false

/-- Block r is an iterator over the map in block b; these keys it has told. -/
def Ip (w : World) (b r : Nat) (es : Array MapEntry) (clock : Nat) (told : List Int) : Prop :=
  ∃ seen c0, w.heap[r]? = some (.mapIter (some b) clock seen c0) ∧ clock ≤ c0 ∧ w.heap[b]? = some (.map es clock) ∧ ∀ e ∈ es.toList, seen.contains e.born = true ↔ ∃ x ∈ told, e.key = .int .i64 x
def lftp (w : World) (r : Nat) (es : Array MapEntry) : Nat := match w.heap[r]? with | some (.mapIter _ _ seen _) => (leftOf es seen).size | _ => 0
theorem Ip.keep {w w' : World} {b r : Nat} {es : Array MapEntry} {clock : Nat} {told : List Int} (h : Ip w b r es clock told) (h1 : w'.heap[r]? = w.heap[r]?) (h2 : w'.heap[b]? = w.heap[b]?) : Ip w' b r es clock told := by
  obtain ⟨seen, c0, k1, k2, k3, k4⟩ := h
  exact ⟨seen, c0, by rw [h1]; exact k1, k2, by rw [h2]; exact k3, k4⟩
/-- What is asked of the map's entries. -/
structure Eg (es : Array MapEntry) (clock : Nat) (Ks : List Int) : Prop where
  keys : es.toList.map (·.key) = Ks.map (Value.int .i64)
  nd : Ks.Nodup
  born : (es.toList.map (·.born)).Pairwise (· < ·)
  old : ∀ e ∈ es.toList, e.born < clock
theorem Eg.key {es : Array MapEntry} {clock : Nat} {Ks : List Int} (h : Eg es clock Ks) {e : MapEntry} (he : e ∈ es.toList) : ∃ x ∈ Ks, e.key = .int .i64 x := by
  have : e.key ∈ es.toList.map (·.key) := List.mem_map.2 ⟨e, he, rfl⟩
  rw [h.keys] at this
  obtain ⟨x, hx, e1⟩ := List.mem_map.1 this
  exact ⟨x, hx, e1.symm⟩
theorem Eg.born_nd {es : Array MapEntry} {clock : Nat} {Ks : List Int} (h : Eg es clock Ks) : (es.toList.map (·.born)).Nodup := by
  rw [List.nodup_iff_pairwise_ne]
  exact h.born.imp fun hlt e => by omega
theorem Eg.key_nd {es : Array MapEntry} {clock : Nat} {Ks : List Int} (h : Eg es clock Ks) : (es.toList.map (·.key)).Nodup := by
  rw [h.keys, List.nodup_iff_pairwise_ne, List.pairwise_map]
  have := h.nd
  rw [List.nodup_iff_pairwise_ne] at this
  exact this.imp fun hne e => hne (by injection e)
theorem Ip.next {w : World} {b r : Nat} {es : Array MapEntry} {clock : Nat} {told : List Int} {Ks : List Int} (h : Ip w b r es clock told) (hE : Eg es clock Ks) (ty : TypeId) :
    ((Instr.next (.pointer (some ⟨r, 0, none⟩)) false ty).run Try.prog w = .ok (.tuple #[.bool false]) w ∧ ∀ x ∈ Ks, x ∈ told) ∨
    ∃ x v w', x ∈ Ks ∧ x ∉ told ∧ (Instr.next (.pointer (some ⟨r, 0, none⟩)) false ty).run Try.prog w = .ok (.tuple #[.bool true, .int .i64 x, v]) w' ∧ Ip w' b r es clock (told ++ [x]) ∧ Rest r w w' ∧ lftp w' r es < lftp w r es ∧
      (Instr.entry (.pointer (some ⟨r, 0, none⟩))).run Try.prog w' = .ok (.tuple #[.int .i64 x, v]) w' ∧ ∃ e ∈ es.toList, e.key = .int .i64 x ∧ e.val = v := by
  obtain ⟨seen, c0, k1, k2, k3, k4⟩ := h
  have hlr := (Array.getElem?_eq_some_iff.1 k1).1
  have hrb : b ≠ r := by rintro rfl; rw [k1] at k3; cases k3
  rcases run_next_at (P := Try.prog) w ty r b clock c0 seen es clock k1 k3 hE.old k2 with ⟨h0, hrun⟩ | ⟨e, he, w1, hal, hrun⟩
  · refine .inl ⟨hrun, fun x hx => ?_⟩
    have hx2 : Value.int .i64 x ∈ es.toList.map (·.key) := by rw [hE.keys]; exact List.mem_map.2 ⟨x, hx, rfl⟩
    obtain ⟨e, he, e1⟩ := List.mem_map.1 hx2
    obtain ⟨y, hy, e2⟩ := (k4 e he).1 (all_seen es seen h0 e he)
    rw [e1] at e2
    injection e2 with _ e3
    rw [e3]; exact hy
  · obtain ⟨hem, hes⟩ := mem_left he
    obtain ⟨x, hx, hk⟩ := hE.key hem
    have hw1 : w1.heap = w.heap := by rcases hal with rfl | rfl <;> rfl
    have hset : (setBlock w1 r (.mapIter (some b) clock (seen.push e.born) clock)).heap[r]? = some (.mapIter (some b) clock (seen.push e.born) clock) := setBlock_at (by rw [hw1]; exact hlr) _
    have hoth : ∀ k, k ≠ r → (setBlock w1 r (.mapIter (some b) clock (seen.push e.born) clock)).heap[k]? = w.heap[k]? := fun k hk => by
      simp [setBlock, Array.getElem?_setIfInBounds, Ne.symm hk, hw1]
    have hb' := (hoth b hrb).trans k3
    rw [hk] at hrun
    have hent := run_entry_at (P := Try.prog) _ r b clock seen es clock e hset hb' hem hE.born_nd
    rw [hk] at hent
    refine .inr ⟨x, e.val, _, hx, fun ht => ?_, hrun, ⟨_, _, hset, Nat.le_refl _, hb', fun y hy => ?_⟩, ?_, ?_, hent, e, hem, hk, rfl⟩
    · have := (k4 e hem).2 ⟨x, ht, hk⟩
      rw [hes] at this
      cases this
    · rw [contains_push]
      constructor
      · intro h
        rcases Bool.or_eq_true_iff.1 h with h | h
        · obtain ⟨z, hz, e1⟩ := (k4 y hy).1 h
          exact ⟨z, List.mem_append_left _ hz, e1⟩
        · have e2 : y = e := nodup_inj hE.born_nd hy hem (by simpa using h)
          exact ⟨x, by simp, by rw [e2]; exact hk⟩
      · rintro ⟨z, hz, e1⟩
        rcases List.mem_append.1 hz with hz | hz
        · rw [(k4 y hy).2 ⟨z, hz, e1⟩]; rfl
        · rw [List.mem_singleton] at hz
          subst hz
          have e2 : y = e := nodup_inj hE.key_nd hy hem (by rw [e1, hk])
          simp [e2]
    · rcases hal with rfl | rfl <;> exact ⟨rfl, rfl, rfl, by simp [setBlock], fun k _ hk => hoth k hk⟩
    · unfold lftp
      rw [hset, k1]
      exact left_shrinks es seen e he
theorem Ip.start {w : World} {b : Nat} {es : Array MapEntry} {clock : Nat} (hb : w.heap[b]? = some (.map es clock)) : (Instr.range 43 (.map (some b))).run Try.prog w = .ok (.pointer (some ⟨w.heap.size, 0, none⟩)) (w.alloc (.mapIter (some b) clock #[] clock)) ∧ Ip (w.alloc (.mapIter (some b) clock #[] clock)) b w.heap.size es clock [] := by
  have hlb := (Array.getElem?_eq_some_iff.1 hb).1
  refine ⟨?_, ⟨_, _, heap_alloc_last w _, Nat.le_refl _, by rw [Below.heap_alloc _ _ _ hlb]; exact hb, fun e _ => by simp⟩⟩
  have hu := run_underlying (P := Try.prog) Try.underlying43 w
  simp only [Instr.range, Sem.run_bind, hu, Result.andThen_ok, getObj_at hb, Sem.run_pure]
  simp [newObj, Sem.run]

/-- What an entry holds. -/
theorem Eg.val {es : Array MapEntry} {clock : Nat} {G : List (Int × (Nat × Rc))} (h : es.toList.map (fun e => (e.key, e.val)) = G.map (fun p => (Value.int .i64 p.1, ptV p.2))) {e : MapEntry} (he : e ∈ es.toList) : ∃ p ∈ G, e.key = .int .i64 p.1 ∧ e.val = ptV p.2 := by
  have : (e.key, e.val) ∈ es.toList.map (fun e => (e.key, e.val)) := List.mem_map.2 ⟨e, he, rfl⟩
  rw [h] at this
  obtain ⟨p, hp, e1⟩ := List.mem_map.1 this
  injection e1 with e2 e3
  exact ⟨p, hp, e2.symm, e3.symm⟩

end Go.Proofs.Ytmfoenhbldacfaa
