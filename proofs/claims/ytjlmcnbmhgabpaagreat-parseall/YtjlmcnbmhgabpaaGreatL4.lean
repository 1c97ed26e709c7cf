/- The walks of lex's since, and of the document's Word. -/
import Derived.Test.YtjlmcnbmhgabpaaGreatL3
namespace Go.Proofs.YtjlmcnbmhgabpaaGreat
open Go.RowKit
set_option linter.unusedVariables false

theorem clone_any (s : ByteArray) (hs : s.size ≤ 500) (w : World) : Calls Tryz.prog 124 #[.string s] w fun e w' => e = .returned (.string s) ∧ Below w.heap.size w w' := by
  have H : Hid _ := Tryz.stringslite_Clone s w (by omega)
  go_enter Tryz.func124, Tryz.ntmps124
  go_wp2_with fail
  refine Calls.mono H.out ?_
  rintro e w1 ⟨rfl, hb⟩
  clear H
  go_wp2
  go_ret
  exact ⟨rfl, hb⟩

theorem extract_size (s : ByteArray) (a b : Nat) : (s.extract a b).size ≤ s.size := by rw [ByteArray.size_extract]; omega
set_option maxRecDepth 100000 in
theorem since_any {g : Nat} {s : ByteArray} {j k : Nat} {w : World} (h : Rr w g s k) (hs : s.size ≤ 500) (hjk : j ≤ k) (hk : k ≤ s.size) :
    Calls Tryz.prog 107 #[.pointer (some ⟨g, 0, none⟩), .int .i64 (j : Int)] w fun e w' => e = .returned (.string (s.extract j k)) ∧ Below w.heap.size w w' := by
  have c0 := h.c0
  have c1 := h.c1
  have HC : Hid (∀ w, _) := fun w => clone_any (s.extract j k) (Nat.le_trans (extract_size s j k) hs) w
  clear h
  go_enter Tryz.func107, Tryz.ntmps107
  go_wp2
  have hY : Below w.heap.size w w.drew := (Below.refl _ _).drew
  go_region_held (fun w' => w'.cell? ⟨g, 0, none⟩ = some (.string s) ∧ w'.cell? ⟨g, 1, none⟩ = some (.int .i64 k)) (first | exact ⟨c0, c1⟩ | exact ⟨cell_later hY c0, cell_later hY c1⟩ | go_keep) (first
    | (go_at_call 124; refine Calls.mono (HC.out _) ?_; rintro e y ⟨rfl, hby⟩; replace hY := Below.on hY hby))
  all_goals
    go_wp2
    go_ret
    exact ⟨rfl, hY⟩


theorem cell_new (w : World) (arr : Array Value) (e : TypeId) (mk : Nat × Nat) (j : Nat) : (w.alloc (.cells arr e mk)).cell? ⟨w.heap.size, j, none⟩ = arr[j]? := by
  have : (w.alloc (.cells arr e mk)).heap[w.heap.size]? = some (.cells arr e mk) := heap_alloc_new w _
  unfold World.cell?
  rw [this]
  rfl
/-- The slice of the words: each is a cell of block b. -/
theorem words_any (w : World) : Calls Tryz.prog 103 #[] w fun e w' => ∃ b, e = .returned (.slice (some ⟨b, 0, none⟩) 37 37) ∧ (∀ i, i < 37 → w'.cell? ⟨b, i, none⟩ = some (.string (wl.getD i ⟨#[]⟩))) ∧ Below w.heap.size w w' := by
  go_enter Tryz.func103, Tryz.ntmps103
  go_wp2
  go_ret
  refine ⟨w.heap.size, rfl, fun i hi => ?_, (Below.refl _ _).alloc (Nat.le_refl _) _⟩
  refine (cell_new w (wl.map Value.string).toArray 9 (0, 0) i).trans ?_
  have hl : i < wl.length := hi
  rw [List.getElem?_toArray, List.getElem?_map, List.getElem?_eq_getElem hl, List.getD, List.getElem?_eq_getElem hl]
  rfl

theorem any_take {l : List ByteArray} {k : Nat} {s d : ByteArray} (hk : k < l.length) (h : (l.take k).any (fun t => decide (t = s)) = false) (hx : decide (l.getD k d = s) = false) : (l.take (k + 1)).any (fun t => decide (t = s)) = false := by
  rw [List.take_add_one, List.any_append, h, List.getElem?_eq_getElem hk]
  rw [List.getD, List.getElem?_eq_getElem hk] at hx
  simpa using hx
theorem any_hit {l : List ByteArray} {k : Nat} {s d : ByteArray} (hk : k < l.length) (hx : decide (l.getD k d = s) = true) : (l.any fun t => decide (t = s)) = true := by
  rw [List.getD, List.getElem?_eq_getElem hk] at hx
  exact List.any_eq_true.2 ⟨_, List.getElem_mem hk, hx⟩

set_option maxRecDepth 100000 in
theorem word_any (s : ByteArray) (w : World) : Calls Tryz.prog 65 #[.string s] w fun e w' => e = .returned (.bool (isW s)) ∧ Below w.heap.size w w' := by
  have H : Hid _ := words_any w
  go_enter Tryz.func65, Tryz.ntmps65
  go_wp2_with fail
  refine Calls.mono H.out ?_
  rintro e w1 ⟨b, rfl, hc, hb⟩
  have HC : Hid _ := hc
  clear H hc
  go_wp2
  go_loopw [4] (fun i wr => ∃ k : Nat, k ≤ 37 ∧ i = .int .i64 k ∧ Hid ((wl.take k).any (fun t => decide (t = s)) = false) ∧ wr = w1) (fun i _ => 37 - (intOf i).toNat)
  case atStart => exact ⟨0, by omega, rfl, rfl, rfl⟩
  case round =>
    obtain ⟨k, hk, rfl, HD, rfl⟩ := hrel
    by_cases hlt : k < 37
    · have c0 := HC.out k hlt
      have hl : k < wl.length := hlt
      have hrun := run_eqS (wl.getD k ⟨#[]⟩) s
      have hs := same_str (wl.getD k ⟨#[]⟩) s
      cases hx : decide (wl.getD k ⟨#[]⟩ = s) with
      | true =>
        have HN : Hid (isW s = true) := any_hit hl hx
        rw [hx] at hs
        clear HD hx hl hrun
        generalize wl.getD k ⟨#[]⟩ = t at *
        go_wp2
        go_ret
        exact ⟨ret_bool HN.out.symm, hb⟩
      | false =>
        have HN : Hid _ := any_take hl HD.out hx
        rw [hx] at hs
        clear HD hx hl hrun
        generalize wl.getD k ⟨#[]⟩ = t at *
        go_wp2
        go_roundw
        case rel => exact ⟨k + 1, by omega, by go_num, HN, trivial⟩
        case measure => simp only [intOf]; omega
    · have HN : Hid (isW s = false) := by
        have := HD.out
        rwa [List.take_of_length_le (by show 37 ≤ k; omega)] at this
      obtain rfl : k = 37 := by omega
      clear HD
      go_wp2
      go_ret
      exact ⟨ret_bool HN.out.symm, hb⟩

end Go.Proofs.YtjlmcnbmhgabpaaGreat
