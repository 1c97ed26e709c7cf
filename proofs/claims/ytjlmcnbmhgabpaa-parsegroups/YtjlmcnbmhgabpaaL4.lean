/- The walks of lex's since, and of the document's Word. -/
import Derived.Test.YtjlmcnbmhgabpaaL3
namespace Go.Proofs.Ytjlmcnbmhgabpaa
open Go.RowKit
set_option linter.unusedVariables false

theorem clone_any (s : ByteArray) (hs : s.size ≤ 500) (w : World) : Calls Try.prog 66 #[.string s] w fun e w' => e = .returned (.string s) ∧ Below w.heap.size w w' := by
  have H : Hid _ := Try.stringslite_Clone s w (by omega)
  go_enter Try.func66, Try.ntmps66
  go_wp2_with fail
  refine Calls.mono H.out ?_
  rintro e w1 ⟨rfl, hb⟩
  clear H
  go_wp2
  go_ret
  exact ⟨rfl, hb⟩

theorem extract_size (s : ByteArray) (a b : Nat) : (s.extract a b).size ≤ s.size := by rw [ByteArray.size_extract]; omega
set_option maxRecDepth 100000 in
theorem since_any {g : Nat} {s : ByteArray} {j k : Nat} {w : World} (h : Rr w g s k) (hs : s.size ≤ 500) (hjk : j ≤ k) (hk : k ≤ s.size) :
    Calls Try.prog 51 #[.pointer (some ⟨g, 0, none⟩), .int .i64 (j : Int)] w fun e w' => e = .returned (.string (s.extract j k)) ∧ Below w.heap.size w w' := by
  have c0 := h.c0
  have c1 := h.c1
  have HC : Hid (∀ w, _) := fun w => clone_any (s.extract j k) (Nat.le_trans (extract_size s j k) hs) w
  clear h
  go_enter Try.func51, Try.ntmps51
  go_wp2
  have hY : Below w.heap.size w w.drew := (Below.refl _ _).drew
  go_region_held (fun w' => w'.cell? ⟨g, 0, none⟩ = some (.string s) ∧ w'.cell? ⟨g, 1, none⟩ = some (.int .i64 k)) (first | exact ⟨c0, c1⟩ | exact ⟨cell_later hY c0, cell_later hY c1⟩ | go_keep) (first
    | (go_at_call 66; refine Calls.mono (HC.out _) ?_; rintro e y ⟨rfl, hby⟩; replace hY := Below.on hY hby))
  all_goals
    go_wp2
    go_ret
    exact ⟨rfl, hY⟩


theorem cell_new (w : World) (arr : Array Value) (e : TypeId) (mk : Nat × Nat) (j : Nat) : (w.alloc (.cells arr e mk)).cell? ⟨w.heap.size, j, none⟩ = arr[j]? := by
  have : (w.alloc (.cells arr e mk)).heap[w.heap.size]? = some (.cells arr e mk) := heap_alloc_new w _
  unfold World.cell?
  rw [this]
  rfl
theorem any_take {l : List ByteArray} {k : Nat} {s d : ByteArray} (hk : k < l.length) (h : (l.take k).any (fun t => decide (t = s)) = false) (hx : decide (l.getD k d = s) = false) : (l.take (k + 1)).any (fun t => decide (t = s)) = false := by
  rw [List.take_add_one, List.any_append, h, List.getElem?_eq_getElem hk]
  rw [List.getD, List.getElem?_eq_getElem hk] at hx
  simpa using hx
theorem any_hit {l : List ByteArray} {k : Nat} {s d : ByteArray} (hk : k < l.length) (hx : decide (l.getD k d = s) = true) : (l.any fun t => decide (t = s)) = true := by
  rw [List.getD, List.getElem?_eq_getElem hk] at hx
  exact List.any_eq_true.2 ⟨_, List.getElem_mem hk, hx⟩

end Go.Proofs.Ytjlmcnbmhgabpaa
