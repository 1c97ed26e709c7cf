import Derived.Test.YtfopfhlohihihaaGreatCbu
import Derived.Test.YtfopfhlohihihaaGreatCbs
import Derived.Test.YtfopfhlohihihaaGreatCbm
import Derived.Test.YtfopfhlohihihaaGreatCas
namespace Go.Proofs.YtfopfhlohihihaaGreat
open Go.RowKit
set_option linter.unusedVariables false
set_option linter.unusedSimpArgs false
theorem lex_few {s : ByteArray} {l : List Tk} {a : Int} (h : LexR s l a 0) : l.length ≤ 402 := by
 rcases h with ⟨_, rfl, _⟩ | ⟨h, hx⟩
 ·simp
 ·have := (hx.ended rfl (Nat.zero_le _)).2
  omega
end Go.Proofs.YtfopfhlohihihaaGreat
