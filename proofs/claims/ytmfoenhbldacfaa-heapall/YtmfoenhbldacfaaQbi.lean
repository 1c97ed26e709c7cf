import Derived.Test.YtmfoenhbldacfaaQbh
/- Clones of a heap's map and of its list. -/
namespace Go.Proofs.Ytmfoenhbldacfaa
open Go.RowKit
set_option linter.unusedVariables false
set_option linter.unusedSimpArgs false

theorem mclone_run {w : World} {b : Nat} {L : List (Int × (Int × Nat))} (h : MapB w b .u64 plV L) (t : TypeId) : ∃ w', (callFunc 37 #[.iface t (.map (some b))]).run Try.prog w = .ok (.value (.iface t (.map (some w.heap.size)))) w' ∧ MapB w' w.heap.size .u64 plV L ∧ Below w.heap.size w w' := by
  obtain ⟨es, c, hb, hr⟩ := h.ex
  refine ⟨w.alloc (.map es c), ?_, ⟨es, c, heap_alloc_last w _, hr⟩, (Below.refl _ _).alloc (Nat.le_refl _) _⟩
  rw [run_callFunc_extern Try.func37 (by kernel_rfl) (by kernel_rfl) (by kernel_rfl) (e := Extern.MapsClone.clone) (by kernel_rfl)]
  have hr2 : (Extern.MapsClone.clone #[.iface t (.map (some b))]).run Try.prog w = .ok (.iface t (.map (some w.heap.size))) (w.alloc (.map es c)) := by
    change Sem.run Try.prog (α := Value) (do
      let .map entries clock ← getObj b | stuck "maps.clone: a map expected"
      pure (.iface t (.map (some (← newObj (.map entries clock)))))) w = _
    simp only [Sem.run_bind, getObj_at hb, Result.andThen_ok, Sem.run_pure]
    simp [newObj, Sem.run, Result.andThen]
  rw [hr2]
  rfl

set_option maxRecDepth 100000 in
set_option maxHeartbeats 1000000 in
theorem mclone_any {B : Nat} {w : World} {ob : Option Nat} {L : List (Int × (Int × Nat))} (h : MapO B w ob .u64 plV L) : Calls Try.prog 24 #[.map ob] w fun e w' => (∃ ob', e = .returned (.map ob') ∧ MapO w.heap.size w' ob' .u64 plV L) ∧ Below w.heap.size w w' := by
  have E1 := pm_some
  have E2 := pm_none
  have E3 : ∀ (x : Nat) (w' : World), (Instr.typeAssert (.iface 42 (.map (some x))) 20 42 false).run Try.prog w' = .ok (.map (some x)) w' := fun x w' => by kernel_rfl
  rcases h with ⟨rfl, rfl⟩ | ⟨b, rfl, hb, hM⟩
  · go_enter Try.func24, Try.ntmps24
    go_wp2
    go_ret
    exact ⟨⟨_, rfl, .inl ⟨rfl, rfl⟩⟩, Below.refl _ _⟩
  · obtain ⟨w', hr, hM', hb'⟩ := mclone_run hM 42
    clear hM
    go_enter Try.func24, Try.ntmps24
    go_wp2_with (simp only [hr])
    go_ret
    exact ⟨⟨_, rfl, .inr ⟨_, rfl, Nat.le_refl _, hM'⟩⟩, hb'⟩

set_option maxRecDepth 100000 in
set_option maxHeartbeats 1000000 in
theorem gclone_any {B : Nat} {w : World} {v : Value} {F : List (Int × Int)} (h : OwnG B w v F) (hl : F.length ≤ 900) : Calls Try.prog 25 #[v] w fun e w' => (∃ v', e = .returned v' ∧ OwnG w.heap.size w' v' F) ∧ Below w.heap.size w w' := by
  rcases h.parts with ⟨rfl, rfl⟩ | ⟨g, cap, cur, rfl, k2, k3, k4, k5, k6, k7⟩
  · have E1 : ∀ w, (binOp .eql 44 (.slice none 0 0) (.slice none 0 0)).run Try.prog w = .ok (.bool true) w := fun w => by kernel_rfl
    go_enter Try.func25, Try.ntmps25
    go_wp2
    go_ret
    exact ⟨⟨_, rfl, OwnG.nil _ _⟩, Below.refl _ _⟩
  · have hb0 : Below w.heap.size w (w.alloc (.cells #[] 66)) := (Below.refl _ _).alloc (Nat.le_refl _) _
    have hnew : OwnG w.heap.size (w.alloc (.cells #[] 66)) (.slice (some ⟨w.heap.size, 0, none⟩) 0 0) [] := OwnG.mk (Nat.le_refl _) (heap_alloc_last w _) (Nat.le_refl _) (by simp [maxLen]) rfl rfl
    have hold : OwnG 0 (w.alloc (.cells #[] 66)) (.slice (some ⟨g, 0, none⟩) F.length cap) F := OwnG.mk (Nat.zero_le _) (by rw [hb0.block g (Array.getElem?_eq_some_iff.1 k3).1]; exact k3) k4 k5 k6 k7
    have hnew0 : OwnG 0 (w.alloc (.cells #[] 66)) (.slice (some ⟨w.heap.size, 0, none⟩) 0 0) [] := OwnG.mk (Nat.zero_le _) (heap_alloc_last w _) (Nat.le_refl _) (by simp [maxLen]) rfl rfl
    have hsz : (w.alloc (.cells #[] 66)).heap.size = w.heap.size + 1 := by simp
    obtain ⟨i, hi, hz, hszi, hb⟩ := info_parts infoGap
    have hR2 : Rw (w.alloc (.cells #[] 66)) g cur.toList := ⟨by
      rw [hb0.block g (Array.getElem?_eq_some_iff.1 k3).1]; simpa using k3⟩
    obtain ⟨v', w', hr, hO, hg⟩ : ∃ v' w', (Builtin.append_ #[44, 44] 44 #[.slice (some ⟨w.heap.size, 0, none⟩) 0 0, .slice (some ⟨g, 0, none⟩) F.length cap]).run Try.prog (w.alloc (.cells #[] 66)) = .ok v' w' ∧ OwnG w.heap.size w' v' F ∧ (w.alloc (.cells #[] 66)).grownBy w' (some w.heap.size) := by
      by_cases h0 : F.length = 0
      · have hRn : Rw (w.alloc (.cells #[] 66)) w.heap.size [] := ⟨heap_alloc_last w _⟩
        have := hRn.append0 44 0 0 cap (some ⟨g, 0, none⟩) (Nat.le_refl _)
        rw [← h0] at this
        refine ⟨_, _, ?_, by rw [List.eq_nil_of_length_eq_zero h0]; exact hnew, ⟨rfl, rfl, rfl, Nat.le_refl _, fun _ _ _ => rfl⟩⟩
        rw [h0] at this ⊢
        exact this
      · obtain ⟨v', w', hr, o1, o2, _, _⟩ := run_append_own_at (P := Try.prog) (w.alloc (.cells #[] 66)) w.heap.size 44 44 66 i _ 2 16 Try.underlying44 hi hz hszi hb rfl (by omega) (.slice (some ⟨w.heap.size, 0, none⟩) 0 0) 0 _ hnew.2 ⟨g, 0, none⟩ F.length cap (F.map gcl).flatten (gfl F)
          (src_of hR2 (fun j u e => by
            rw [← k7, List.getElem?_take] at e
            split at e
            · rw [Nat.zero_add]; exact e
            · cases e)) (gcl_one F) (by unfold maxLen; omega) (by omega) (by omega)
        refine ⟨v', w', hr, ⟨gcl_len _, ?_⟩, o2⟩
        rw [List.length_map]
        simpa using o1
    have hfin : Below w.heap.size w w' := hb0.grown hg (by omega) (fun k e => by cases e; exact Nat.le_refl _)
    have E1 : ∀ w', (binOp .eql 44 (.slice (some ⟨g, 0, none⟩) F.length cap) (.slice none 0 0)).run Try.prog w' = .ok (.bool false) w' := fun w' => by kernel_rfl
    generalize F.length = n at *
    clear hnew hold hnew0 hR2 k7 k6 k4 hi hz hszi hb
    go_enter Try.func25, Try.ntmps25
    go_wp2_with (at_builtin; refine wpList_app2 rfl (.tmp 5) (.tmp 6) 44 44 rfl rfl rfl hr ?_)
    go_ret
    exact ⟨⟨_, rfl, hO⟩, hfin⟩

end Go.Proofs.Ytmfoenhbldacfaa
/- A page of the call's own; begun. -/
namespace Go.Proofs.Ytmfoenhbldacfaa
open Go.RowKit
set_option linter.unusedVariables false

/-- A page of the call's own, since W. -/
structure My (W w : World) (g : Nat) (R : List (List Int)) : Prop where
  pg : ∃ B, Pi w g B R allP
  own : W.heap.size ≤ g
  bel : Below W.heap.size W w
theorem My.later {W w w' : World} {g : Nat} {R : List (List Int)} (h : My W w g R) (hb : Below w.heap.size w w') : My W w' g R := by
  obtain ⟨B, hB⟩ := h.pg
  exact ⟨⟨B, hB.later hb⟩, h.own, bthen h.bel hb⟩
theorem My.turn {W w w' : World} {g : Nat} {R R' : List (List Int)} (h : My W w g R) (hr : Rest g w w') (hp : ∃ B, Pi w' g B R' allP) : My W w' g R' :=
  ⟨hp, h.own, Rest.below h.bel hr h.own h.bel.size⟩
theorem My.lt {W w : World} {g : Nat} {R : List (List Int)} (h : My W w g R) : g < w.heap.size := by
  obtain ⟨B, hB⟩ := h.pg
  exact hB.pg.lt
theorem My.alloc {W w : World} {g : Nat} {R : List (List Int)} (h : My W w g R) (o : Obj) : My W (w.alloc o) g R := h.later ((Below.refl _ _).alloc (Nat.le_refl _) _)
theorem My.drewN {W w : World} {g : Nat} {R : List (List Int)} (h : My W w g R) (n : Nat) : My W (w.drewN n) g R := by
  obtain ⟨B, hB⟩ := h.pg
  exact ⟨⟨B, hB.drewN n⟩, h.own, below_drewN h.bel n⟩
theorem my_new (W w : World) (hb : Below W.heap.size W w) : Calls Try.prog 19 #[] w fun e w' => ∃ g, e = .returned (.pointer (some ⟨g, 0, none⟩)) ∧ My W w' g [] ∧ Below w.heap.size w w' := by
  refine Calls.mono (new_any w) ?_
  rintro e w' ⟨rfl, hp, hb2⟩
  exact ⟨_, rfl, ⟨⟨_, hp⟩, hb.size, bthen hb hb2⟩, hb2⟩

/-- Bytes that the call has just laid. -/
theorem Rd.new (w : World) (l : List Int) (h : l.length ≤ 1000) : Rd .u8 (w.alloc (.cells (l.map (Value.int .u8)).toArray 5)) (some ⟨w.heap.size, 0, none⟩) l.length l.length l :=
  ⟨rfl, Nat.le_refl _, by omega, (fun e => by cases e), fun _ => ⟨_, 0, rfl, fun i hi => by
    rw [cell_of_row _ _ _ _ _ _ (heap_alloc_last w _)]
    simp [nth, hi]⟩⟩

end Go.Proofs.Ytmfoenhbldacfaa
/- Does the heap do anything yet? -/
namespace Go.Proofs.Ytmfoenhbldacfaa
open Go.RowKit
set_option linter.unusedVariables false
set_option linter.unusedSimpArgs false

/-- Bytes of the call's own, laid just now. -/
theorem put_new {B : Nat} {w : World} {hb : Nat} {M : Int → Option (List Int)} {N k : Nat} (h : HA B w hb M N k) (id : Int) (b : List Int) (hby : By b) (h0 : b ≠ []) (h2 : b.length ≤ 200) (hN : N ≤ 700) (hk : k ≤ 900000) :
    Calls Try.prog 9 #[.pointer (some ⟨hb, 0, none⟩), .int .u64 id, .slice (some ⟨w.heap.size, 0, none⟩) b.length b.length] (w.alloc (.cells (b.map (Value.int .u8)).toArray 5)) fun e w' => e = .returned (.int .i64 0) ∧ HA B w' hb (fun j => if j = id then some b else M j) (if M id = none then N + 1 else N) (k + 1) ∧ Ft B noX w w' := by
  have hb0 : Below w.heap.size w (w.alloc (.cells (b.map (Value.int .u8)).toArray 5)) := (Below.refl _ _).alloc (Nat.le_refl _) _
  refine Calls.mono (hput_any (h.later hb0) id (Rd.new w b (by omega)) hby h0 h2 (fun a ha => by cases ha; exact ⟨_, heap_alloc_last w _⟩) hN hk) ?_
  rintro e w' ⟨rfl, h1, h3⟩
  exact ⟨rfl, h1, (Ft.of hb0).trans h3⟩
theorem HA.bw {B : Nat} {w : World} {hb : Nat} {M : Int → Option (List Int)} {N k : Nat} (h : HA B w hb M N k) : B ≤ w.heap.size := by
  obtain ⟨H, _, h2, _⟩ := h.ex
  exact h2.bw
theorem two_sorted {l : List Int} (hl : l.length = 2) (hm : ∀ x, x ∈ l ↔ x = 5 ∨ x = 3) (hs : ∀ i j, i < j → j < l.length → nth l i ≤ nth l j) : l = [3, 5] := by
  match l, hl with
  | [a, b], _ =>
    have h1 := hs 0 1 (by omega) (by simp)
    have h5 := (hm 5).2 (.inl rfl)
    have h3 := (hm 3).2 (.inr rfl)
    have ha := (hm a).1 (by simp)
    have hb := (hm b).1 (by simp)
    simp [nth] at h1 h5 h3
    have : a = 3 ∧ b = 5 := by omega
    rw [this.1, this.2]

set_option maxRecDepth 100000 in
set_option maxHeartbeats 2000000 in
theorem begun14_any (w : World) : Calls Try.prog 6 #[] w fun e w' => e = .returned (.bool true) ∧ Below w.heap.size w w' := by
  have HN : Hid _ := hnew_any w w.heap.size (Nat.le_refl _)
  have H1 : Hid (∀ w1 hb, HA w.heap.size w1 hb (fun _ => none) 0 0 → Calls Try.prog 9 #[.pointer (some ⟨hb, 0, none⟩), .int .u64 5, .slice (some ⟨w1.heap.size, 0, none⟩) 1 1] (w1.alloc (.cells #[.int .u8 1] 5)) fun e w' => e = .returned (.int .i64 0) ∧ HA w.heap.size w' hb (fun j => if j = 5 then some [1] else none) 1 1 ∧ Ft w.heap.size noX w1 w') := fun w1 hb k => put_new k 5 [1] (fun x hx => by simp at hx; omega) (by simp) (by decide) (by omega) (by omega)
  have H2 : Hid (∀ w1 hb, HA w.heap.size w1 hb (fun j => if j = 5 then some [1] else none) 1 1 → Calls Try.prog 9 #[.pointer (some ⟨hb, 0, none⟩), .int .u64 3, .slice (some ⟨w1.heap.size, 0, none⟩) 2 2] (w1.alloc (.cells #[.int .u8 2, .int .u8 2] 5)) fun e w' => e = .returned (.int .i64 0) ∧ HA w.heap.size w' hb (fun j => if j = 3 then some [2, 2] else if j = 5 then some [1] else none) 2 2 ∧ Ft w.heap.size noX w1 w') := fun w1 hb k => put_new k 3 [2, 2] (fun x hx => by simp at hx; omega) (by simp) (by decide) (by omega) (by omega)
  have H3 : Hid (∀ w1 hb, HA w.heap.size w1 hb (fun j => if j = 3 then some [2, 2] else if j = 5 then some [1] else none) 2 2 → Calls Try.prog 18 #[.pointer (some ⟨hb, 0, none⟩)] w1 fun e w' => (∃ g c, e = .returned (.slice (some ⟨g, 0, none⟩) 2 c) ∧ 2 ≤ c ∧ c ≤ 9223372036854775807 ∧ w'.cell? ⟨g, 0, none⟩ = some (.int .u64 3)) ∧ Below w1.heap.size w1 w') := fun w1 hb k => by
    refine Calls.mono (hids_any k (by omega) (by omega)) ?_
    rintro e w' ⟨⟨v, l, rfl, q1, q2, q3, q4⟩, hb2⟩
    have hl := two_sorted q2 (fun x => by
      rw [q3]
      by_cases h3 : x = 3
      · simp [h3]
      · by_cases h5 : x = 5 <;> simp [h3, h5]) q4
    subst hl
    rcases q1.2 with ⟨_, h0⟩ | ⟨g, cap, cur, h1, h2, h3, h4, h5, h6, h7⟩
    · cases h0
    · refine ⟨⟨g, cap, by rw [h1]; rfl, h4, by simpa [maxLen] using h5, ?_⟩, hb2⟩
      rw [cell_of_row _ _ _ _ _ _ h3]
      have := congrArg (fun l => l[0]?) h7
      simp only [List.getElem?_take] at this
      rw [if_pos (by decide), Array.getElem?_toList] at this
      exact this
  have H4 : Hid (∀ w1 hb, HA w.heap.size w1 hb (fun j => if j = 3 then some [2, 2] else if j = 5 then some [1] else none) 2 2 → Calls Try.prog 15 #[.pointer (some ⟨hb, 0, none⟩), .int .u64 3] w1 fun e w' => (∃ a c, e = .returned (.tuple #[.slice a 2 c, .int .i64 0]) ∧ 2 ≤ c) ∧ Below w1.heap.size w1 w') := fun w1 hb k => by
    refine Calls.mono (hget_any k 3 (b := [2, 2]) (by simp)) ?_
    rintro e w' ⟨⟨v, rfl, hv⟩, hb2⟩
    obtain ⟨ao, c, rfl, hr⟩ := hv.rd
    exact ⟨⟨ao, c, rfl, hr.cap⟩, hb2⟩
  go_enter Try.func6, Try.ntmps6
  go_wp2_with fail
  refine Calls.mono HN.out ?_
  rintro e w1 ⟨hb, rfl, hA1, hb1⟩
  have K1 : Hid _ := H1.out w1 hb hA1
  clear HN H1 hA1
  go_wp2_with fail
  refine Calls.mono K1.out ?_
  rintro e w2 ⟨rfl, hA2, hf2⟩
  have K2 : Hid _ := H2.out w2 hb hA2
  have hB2 : Below w.heap.size w w2 := Ft.below hb1 hf2 hb1.size
  clear K1 H2 hA2 hf2 hb1
  go_wp2_with fail
  refine Calls.mono K2.out ?_
  rintro e w3 ⟨rfl, hA3, hf3⟩
  have K3 : Hid _ := H3.out w3 hb hA3
  have hB3 : Below w.heap.size w w3 := Ft.below hB2 hf3 hB2.size
  clear K2 H3 hf3 hB2
  go_wp2_with fail
  refine Calls.mono K3.out ?_
  rintro e w4 ⟨⟨g, c, rfl, hc1, hc2, c0⟩, hb4⟩
  have hA4 := hA3.later hb4
  have K4 : Hid _ := H4.out w4 hb hA4
  have hB4 : Below w.heap.size w w4 := bthen hB3 hb4
  clear K3 H4 hb4 hB3 hA3
  go_wp2_with fail
  refine Calls.mono K4.out ?_
  rintro e w5 ⟨⟨a5, c5, rfl, hc5⟩, hb5⟩
  have hA5 := hA4.later hb5
  have hB5 : Below w.heap.size w w5 := bthen hB4 hb5
  have c5' : w5.cell? ⟨g, 0, none⟩ = some (.int .u64 3) := bcl hb5 c0
  have K5 : Hid _ := hlen_any hA5
  clear K4 hb5 hB4 hA4 hA5 c0
  go_wp2_with fail
  refine Calls.mono K5.out ?_
  rintro e w6 ⟨rfl, rfl⟩
  clear K5
  go_wp2
  go_ret
  exact ⟨rfl, hB5⟩

end Go.Proofs.Ytmfoenhbldacfaa
