import Derived.Test.YtfopfhlohihihaaGreatNae
import Derived.Test.YtfopfhlohihihaaGreatNaf
import Derived.Test.YtfopfhlohihihaaGreatNaa
namespace Go.Proofs.YtfopfhlohihihaaGreat
open Go.RowKit
set_option linter.unusedVariables false
set_option linter.unusedSimpArgs false
theorem cat_lists (l m : List UInt8) : (⟨l.toArray⟩ : ByteArray) ++ ⟨m.toArray⟩ = ⟨(l ++ m).toArray⟩ := by
  apply ByteArray.ext
  simp [ByteArray.data_append]
theorem str_index (s : ByteArray) (r : Nat) (h : r < s.size) (w : World) : (Instr.index 9 (.string s) (.int .i64 (r : Int))).run Tryz.prog w = .ok (.int .u8 (s[r].toNat : Int)) w := by go_simp
theorem sz_mk (l : List UInt8) : (⟨l.toArray⟩ : ByteArray).size = l.length := by show l.toArray.size = _; rw [List.size_toArray]
end Go.Proofs.YtfopfhlohihihaaGreat
