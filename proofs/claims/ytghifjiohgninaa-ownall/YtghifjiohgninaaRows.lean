/-
  No cell of these rows narrows 'for every input' (looked for: loops, veiled, ifaces, maps, wideKeys, modest, calm, conditions, laid).
  DERIVED. THE GIVEN ROWS OF THIS SEAT. 3 by the template 'for every input the law returns true; each argument reads behind the call as it read before'; 0 by the template 'total and deterministic' (their statements: YtghifjiohgninaaTotals.lean).
  GIVEN WITH THE SEED: the statements are not yours to turn. If you find one false, say at which input.
  Laid BY PROGRAM, IN A SANDBOX (cutbox-rows.mjs): the forced cells as the released guide's own fill.sh prints them over the translation 60e33105e16903e2… (all of the seat's roots in one cut). By AI agents, Wed Nov 11 2026. No macro, syntax, notation, axiom, sorry.
-/
import Derived.Test.YtghifjiohgninaaChecked
import GoSem.Claim
import GoSem.ClaimJoined
import GoSem.ClaimMapViews
import Derived.JoinedTies
import Derived.KernelRfl
namespace Go.Proofs.Ytghifjiohgninaa
/- THE CELL 'sum', in the pinned program and in every row, IS THE sha256 OF THE DUMP (.gsa) THAT YtghifjiohgninaaProg.lean LOADS. Nothing in Lean hashes anything: it is a label: what it is worth is what the hold of that sum in a sandbox is worth. -/
noncomputable def Try.pinned : Pinned := { name := "ytghifjiohgninaa", sum := "60e33105e16903e2d497a52ffd10b05f565c1b9da79c4162a4d89baf3fcb3869", checked := Try.checked }
namespace Rows
def none {H : Type} : Left H := { results := [], args := [] }

/-- 'quarantinelaw2.OwnAll': WHATEVER THE INPUT: true; the input reads as it did. -/
def ownAllSpec : ChangeSpec := { name := "ownAll", fn := fun _ => fun
  | [d1, d2, d3, d4] => { results := [.lit (.bool true)], args := [d1, d2, d3, d4] }
  | _ => none }
def ownAllRow : OpenClaim := { program := "ytghifjiohgninaa", sum := "60e33105e16903e2d497a52ffd10b05f565c1b9da79c4162a4d89baf3fcb3869", func := "quarantine/quarantinelaw2.OwnAll", spec := "ownAll", unfollowed := true, recurses := true, apart := false }
def OwnAllSaid : Prop := ownAllRow.holds Try.pinned (OpenSpec.ofChange ownAllSpec)

/-- ITS FALSE NEIGHBOUR: 'it returns false'. Refute it at one input. -/
def ownAllWrong : ChangeSpec := { name := "ownAll", fn := fun _ => fun
  | [d1, d2, d3, d4] => { results := [.lit (.bool false)], args := [d1, d2, d3, d4] }
  | _ => none }
def OwnAllWrongFalsely : Prop := ownAllRow.holds Try.pinned (OpenSpec.ofChange ownAllWrong)

/-- 'quarantinelaw2.OwnMore': WHATEVER THE INPUT: true; the input reads as it did. -/
def ownMoreSpec : ChangeSpec := { name := "ownMore", fn := fun _ => fun
  | [d1, d2, d3, d4] => { results := [.lit (.bool true)], args := [d1, d2, d3, d4] }
  | _ => none }
def ownMoreRow : OpenClaim := { program := "ytghifjiohgninaa", sum := "60e33105e16903e2d497a52ffd10b05f565c1b9da79c4162a4d89baf3fcb3869", func := "quarantine/quarantinelaw2.OwnMore", spec := "ownMore", unfollowed := true, recurses := true, apart := false }
def OwnMoreSaid : Prop := ownMoreRow.holds Try.pinned (OpenSpec.ofChange ownMoreSpec)

/-- ITS FALSE NEIGHBOUR: 'it returns false'. Refute it at one input. -/
def ownMoreWrong : ChangeSpec := { name := "ownMore", fn := fun _ => fun
  | [d1, d2, d3, d4] => { results := [.lit (.bool false)], args := [d1, d2, d3, d4] }
  | _ => none }
def OwnMoreWrongFalsely : Prop := ownMoreRow.holds Try.pinned (OpenSpec.ofChange ownMoreWrong)

/-- 'quarantinelaw2.OwnStrips': WHATEVER THE INPUT: true; the input reads as it did. -/
def ownStripsSpec : ChangeSpec := { name := "ownStrips", fn := fun _ => fun
  | [d1, d2] => { results := [.lit (.bool true)], args := [d1, d2] }
  | _ => none }
def ownStripsRow : OpenClaim := { program := "ytghifjiohgninaa", sum := "60e33105e16903e2d497a52ffd10b05f565c1b9da79c4162a4d89baf3fcb3869", func := "quarantine/quarantinelaw2.OwnStrips", spec := "ownStrips", unfollowed := true, recurses := true, apart := false }
def OwnStripsSaid : Prop := ownStripsRow.holds Try.pinned (OpenSpec.ofChange ownStripsSpec)

/-- ITS FALSE NEIGHBOUR: 'it returns false'. Refute it at one input. -/
def ownStripsWrong : ChangeSpec := { name := "ownStrips", fn := fun _ => fun
  | [d1, d2] => { results := [.lit (.bool false)], args := [d1, d2] }
  | _ => none }
def OwnStripsWrongFalsely : Prop := ownStripsRow.holds Try.pinned (OpenSpec.ofChange ownStripsWrong)

/- THE SECOND FORM. 'bulk': how many values and letters a reading holds, each counted each time it is reached (what is shared counts as often as it is met; a slice's spare places count too). A statement '..UptoSaid' is the law's where the arguments, and the package variables that the reading takes, are together of bulk at most 1048576: NARROWER than '..Said'. Prove '..Said' where nothing that the law and all that it calls make is longer than what came in: it says more and counts as full. Else prove '..UptoSaid'. A law counts once. -/
mutual
def uptoBulk {H : Type} : DataW H → Nat
  | .lit (.string bytes) => bytes.length + 1
  | .lit _ => 1
  | .nil => 1
  | .ptr d => uptoBulk d + 1
  | .slice elems spare => uptoBulkAll elems + uptoBulkAll spare + 1
  | .agg parts => uptoBulkAll parts + 1
  | .iface _ d => uptoBulk d + 1
  | .map entries => uptoBulkEntries entries + 1
  | .held _ => 1
def uptoBulkAll {H : Type} : List (DataW H) → Nat
  | [] => 0
  | d :: r => uptoBulk d + uptoBulkAll r
def uptoBulkEntries {H : Type} : List (Lit × DataW H) → Nat
  | [] => 0
  | x :: r => uptoBulkEntry x + uptoBulkEntries r
def uptoBulkEntry {H : Type} : Lit × DataW H → Nat
  | (.string bytes, d) => bytes.length + uptoBulk d + 1
  | (_, d) => uptoBulk d + 1
 end
def uptoSmall : (H : Type) → List (DataW H) → Bool := fun _ ds => decide (uptoBulkAll ds ≤ 1048576)
def OpenSpec.upto (s : _root_.Go.ChangeSpec) : _root_.Go.OpenSpec := { _root_.Go.OpenSpec.ofChange s with cond := some uptoSmall }

/-- 'quarantinelaw2.OwnAll', WHERE WHAT IT READS IS OF BULK AT MOST 1048576: true; the input reads as it did. -/
def ownAllUptoRow : OpenClaim := { program := "ytghifjiohgninaa", sum := "60e33105e16903e2d497a52ffd10b05f565c1b9da79c4162a4d89baf3fcb3869", func := "quarantine/quarantinelaw2.OwnAll", spec := "ownAll", unfollowed := true, recurses := true, apart := false, narrowed := true }
def OwnAllUptoSaid : Prop := ownAllUptoRow.holds Try.pinned (OpenSpec.upto ownAllSpec)

/-- 'quarantinelaw2.OwnMore', WHERE WHAT IT READS IS OF BULK AT MOST 1048576: true; the input reads as it did. -/
def ownMoreUptoRow : OpenClaim := { program := "ytghifjiohgninaa", sum := "60e33105e16903e2d497a52ffd10b05f565c1b9da79c4162a4d89baf3fcb3869", func := "quarantine/quarantinelaw2.OwnMore", spec := "ownMore", unfollowed := true, recurses := true, apart := false, narrowed := true }
def OwnMoreUptoSaid : Prop := ownMoreUptoRow.holds Try.pinned (OpenSpec.upto ownMoreSpec)

/-- 'quarantinelaw2.OwnStrips', WHERE WHAT IT READS IS OF BULK AT MOST 1048576: true; the input reads as it did. -/
def ownStripsUptoRow : OpenClaim := { program := "ytghifjiohgninaa", sum := "60e33105e16903e2d497a52ffd10b05f565c1b9da79c4162a4d89baf3fcb3869", func := "quarantine/quarantinelaw2.OwnStrips", spec := "ownStrips", unfollowed := true, recurses := true, apart := false, narrowed := true }
def OwnStripsUptoSaid : Prop := ownStripsUptoRow.holds Try.pinned (OpenSpec.upto ownStripsSpec)

end Rows
end Go.Proofs.Ytghifjiohgninaa
