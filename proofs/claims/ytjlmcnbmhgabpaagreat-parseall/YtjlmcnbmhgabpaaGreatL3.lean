/- The walks of lex's noName, since, and of the document's Word. -/
import Derived.Test.YtjlmcnbmhgabpaaGreatL2
import Derived.Test.YtjlmcnbmhgabpaaGreatCl
import Derived.Deep.RegionHeld3
namespace Go.Proofs.YtjlmcnbmhgabpaaGreat
open Go.RowKit
set_option linter.unusedVariables false

/-- A step on. -/
theorem Below.on {a w w' : World} (h : Below a.heap.size a w) (k : Below w.heap.size w w') : Below a.heap.size a w' := h.trans (k.mono h.size)
/-- Are two texts the same? -/
def eqS (s t : ByteArray) : Bool := decide (s = t)
theorem same_str (s t : ByteArray) : (s.toList == t.toList) = decide (s = t) := by
  rw [Bool.eq_iff_iff]
  simp only [beq_iff_eq, decide_eq_true_eq]
  constructor
  · intro h
    rw [ByteArray.toList_eq, ByteArray.toList_eq] at h
    exact ByteArray.ext (Array.toList_inj.1 h)
  · intro h; rw [h]
theorem run_eqS (s t : ByteArray) (w : World) : (binOp .eql 9 (.string s) (.string t)).run Tryz.prog w = .ok (.bool (eqS s t)) w := by
  have h := same_str s t
  rw [eqS]
  generalize decide (s = t) = B at *
  go_simp

/-- The words' letters. -/
def wls : List (List UInt8) := [[97, 110, 100], [97, 115], [98, 101, 103, 105, 110], [98, 121], [99, 97, 108, 108], [99, 108, 111, 115, 117, 114, 101], [99, 111, 109, 109, 105, 116], [99, 111, 117, 110, 116], [99, 114, 101, 97, 116, 101], [100, 101, 108, 101, 116, 101], [100, 101, 115, 99], [102, 114, 111, 109], [103, 114, 111, 117, 112], [105, 110, 100, 101, 120], [105, 110, 115, 101, 114, 116], [105, 110, 116], [105, 110, 116, 111], [106, 111, 105, 110], [109, 97, 120], [109, 105, 110], [110, 111, 116], [111, 110], [111, 114], [111, 114, 100, 101, 114], [114, 97, 105, 115, 101], [114, 101, 102], [114, 111, 108, 108, 98, 97, 99, 107], [115, 101, 108, 101, 99, 116], [115, 101, 116], [115, 116, 114, 105, 112], [115, 117, 109], [116, 97, 98, 108, 101], [116, 101, 120, 116], [117, 112, 100, 97, 116, 101], [118, 97, 108, 117, 101, 115], [118, 105, 101, 119], [119, 104, 101, 114, 101]]
theorem wl_wls : wl = wls.map fun l => ⟨l.toArray⟩ := by decide

set_option maxRecDepth 100000 in
theorem noName_not (s : ByteArray) (h : s ∉ wl) (w : World) : Calls Tryz.prog 108 #[.string s] w fun e w' => e = .returned (.bool false) ∧ w' = w := by
  have hs : ∀ l ∈ wls, (s.toList == l) = false := fun l hl => by
    rw [beq_eq_false_iff_ne]
    intro e
    refine h ?_
    rw [wl_wls, List.mem_map]
    refine ⟨l, hl, ?_⟩
    rw [← e, ByteArray.toList_eq]
  simp only [wls, List.mem_cons, forall_eq_or_imp, List.not_mem_nil, false_implies, implies_true, and_true] at hs
  clear h
  obtain ⟨h1, h2, h3, h4, h5, h6, h7, h8, h9, h10, h11, h12, h13, h14, h15, h16, h17, h18, h19, h20, h21, h22, h23, h24, h25, h26, h27, h28, h29, h30, h31, h32, h33, h34, h35, h36, h37⟩ := hs
  go_enter Tryz.func108, Tryz.ntmps108
  go_wp2
  go_ret
  exact ⟨rfl, rfl⟩

set_option maxHeartbeats 4000000 in
set_option maxRecDepth 100000 in
theorem noName_yes (s : ByteArray) (h : s ∈ wl) (w : World) : Calls Tryz.prog 108 #[.string s] w fun e w' => e = .returned (.bool true) ∧ w' = w := by
  simp only [wl, List.mem_cons, List.not_mem_nil, or_false] at h
  rcases h with rfl | rfl | rfl | rfl | rfl | rfl | rfl | rfl | rfl | rfl | rfl | rfl | rfl | rfl | rfl | rfl | rfl | rfl | rfl | rfl | rfl | rfl | rfl | rfl | rfl | rfl | rfl | rfl | rfl | rfl | rfl | rfl | rfl | rfl | rfl | rfl | rfl
  all_goals
    go_enter Tryz.func108, Tryz.ntmps108
    go_wp2
    go_ret
    exact ⟨rfl, rfl⟩
theorem noName_any (s : ByteArray) (w : World) : Calls Tryz.prog 108 #[.string s] w fun e w' => e = .returned (.bool (isW s)) ∧ w' = w := by
  cases h : isW s with
  | true => exact noName_yes s (isW_iff.1 h) w
  | false => exact noName_not s (fun k => by rw [isW_iff.2 k] at h; cases h) w


end Go.Proofs.YtjlmcnbmhgabpaaGreat
