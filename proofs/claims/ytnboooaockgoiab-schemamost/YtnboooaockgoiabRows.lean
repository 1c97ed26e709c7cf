/-
  No cell of these rows narrows 'for every input' (looked for: loops, veiled, ifaces, maps, wideKeys, modest, calm, conditions, laid).
  DERIVED. THE GIVEN ROWS OF THIS SEAT. 2 by the template 'for every input the law returns true; each argument reads behind the call as it read before'; 0 by the template 'total and deterministic' (their statements: YtnboooaockgoiabTotals.lean).
  GIVEN WITH THE SEED: the statements are not yours to turn. If you find one false, say at which input.
  Laid BY PROGRAM, IN A SANDBOX (cutbox-rows.mjs): the forced cells as the released guide's own fill.sh prints them over the translation 449cd392269dbb3e… (all of the seat's roots in one cut). By AI agents, Wed Nov 11 2026. No macro, syntax, notation, axiom, sorry.
-/
import Derived.Test.YtnboooaockgoiabChecked
import GoSem.Claim
import GoSem.ClaimJoined
import GoSem.ClaimMapViews
import Derived.JoinedTies
import Derived.KernelRfl
namespace Go.Proofs.Ytnboooaockgoiab
/- THE CELL 'sum', in the pinned program and in every row, IS THE sha256 OF THE DUMP (.gsa) THAT YtnboooaockgoiabProg.lean LOADS. Nothing in Lean hashes anything: it is a label: what it is worth is what the hold of that sum in a sandbox is worth. -/
noncomputable def Try.pinned : Pinned := { name := "ytnboooaockgoiab", sum := "449cd392269dbb3e698f3677d7c7f2499b3e9786086b3df094ebb83e532fff57", checked := Try.checked }
namespace Rows
def none {H : Type} : Left H := { results := [], args := [] }

/-- 'quarantinelaw9.SchemaMost': WHATEVER THE INPUT: true; the input reads as it did. -/
def schemaMostSpec : ChangeSpec := { name := "schemaMost", fn := fun _ => fun
  | [d1, d2] => { results := [.lit (.bool true)], args := [d1, d2] }
  | _ => none }
def schemaMostRow : OpenClaim := { program := "ytnboooaockgoiab", sum := "449cd392269dbb3e698f3677d7c7f2499b3e9786086b3df094ebb83e532fff57", func := "quarantine/quarantinelaw9.SchemaMost", spec := "schemaMost", unfollowed := true, recurses := true, apart := false }
def SchemaMostSaid : Prop := schemaMostRow.holds Try.pinned (OpenSpec.ofChange schemaMostSpec)

/-- ITS FALSE NEIGHBOUR: 'it returns false'. Refute it at one input. -/
def schemaMostWrong : ChangeSpec := { name := "schemaMost", fn := fun _ => fun
  | [d1, d2] => { results := [.lit (.bool false)], args := [d1, d2] }
  | _ => none }
def SchemaMostWrongFalsely : Prop := schemaMostRow.holds Try.pinned (OpenSpec.ofChange schemaMostWrong)

/-- 'quarantinelaw9.SchemaRefs': WHATEVER THE INPUT: true; the input reads as it did. -/
def schemaRefsSpec : ChangeSpec := { name := "schemaRefs", fn := fun _ => fun
  | [d1, d2, d3, d4] => { results := [.lit (.bool true)], args := [d1, d2, d3, d4] }
  | _ => none }
def schemaRefsRow : OpenClaim := { program := "ytnboooaockgoiab", sum := "449cd392269dbb3e698f3677d7c7f2499b3e9786086b3df094ebb83e532fff57", func := "quarantine/quarantinelaw9.SchemaRefs", spec := "schemaRefs", unfollowed := true, recurses := true, apart := false }
def SchemaRefsSaid : Prop := schemaRefsRow.holds Try.pinned (OpenSpec.ofChange schemaRefsSpec)

/-- ITS FALSE NEIGHBOUR: 'it returns false'. Refute it at one input. -/
def schemaRefsWrong : ChangeSpec := { name := "schemaRefs", fn := fun _ => fun
  | [d1, d2, d3, d4] => { results := [.lit (.bool false)], args := [d1, d2, d3, d4] }
  | _ => none }
def SchemaRefsWrongFalsely : Prop := schemaRefsRow.holds Try.pinned (OpenSpec.ofChange schemaRefsWrong)

/- THE SECOND FORM. 'bulk': how many values and letters a reading holds, each counted each time it is reached (what is shared counts as often as it is met; a slice's spare places count too). A statement '..UptoSaid' is the law's where the arguments, and the package variables that the reading takes, are together of bulk at most 1048576: NARROWER than '..Said'. Prove '..Said' where nothing that the law and all that it calls make is longer than what came in: it says more and counts as full. Else prove '..UptoSaid'. A law counts once. -/
mutual
def uptoBulk {H : Type} : DataW H → Nat
  | .lit (.string bytes) => bytes.length + 1
  | .lit _ => 1
  | .nil => 1
  | .ptr d => uptoBulk d + 1
  | .slice elems spare => uptoBulkAll elems + uptoBulkAll spare + 1
  | .agg parts => uptoBulkAll parts + 1
  | .iface _ d => uptoBulk d + 1
  | .map entries => uptoBulkEntries entries + 1
  | .held _ => 1
def uptoBulkAll {H : Type} : List (DataW H) → Nat
  | [] => 0
  | d :: r => uptoBulk d + uptoBulkAll r
def uptoBulkEntries {H : Type} : List (Lit × DataW H) → Nat
  | [] => 0
  | x :: r => uptoBulkEntry x + uptoBulkEntries r
def uptoBulkEntry {H : Type} : Lit × DataW H → Nat
  | (.string bytes, d) => bytes.length + uptoBulk d + 1
  | (_, d) => uptoBulk d + 1
 end
def uptoSmall : (H : Type) → List (DataW H) → Bool := fun _ ds => decide (uptoBulkAll ds ≤ 1048576)
def OpenSpec.upto (s : _root_.Go.ChangeSpec) : _root_.Go.OpenSpec := { _root_.Go.OpenSpec.ofChange s with cond := some uptoSmall }

/-- 'quarantinelaw9.SchemaMost', WHERE WHAT IT READS IS OF BULK AT MOST 1048576: true; the input reads as it did. -/
def schemaMostUptoRow : OpenClaim := { program := "ytnboooaockgoiab", sum := "449cd392269dbb3e698f3677d7c7f2499b3e9786086b3df094ebb83e532fff57", func := "quarantine/quarantinelaw9.SchemaMost", spec := "schemaMost", unfollowed := true, recurses := true, apart := false, narrowed := true }
def SchemaMostUptoSaid : Prop := schemaMostUptoRow.holds Try.pinned (OpenSpec.upto schemaMostSpec)

/-- 'quarantinelaw9.SchemaRefs', WHERE WHAT IT READS IS OF BULK AT MOST 1048576: true; the input reads as it did. -/
def schemaRefsUptoRow : OpenClaim := { program := "ytnboooaockgoiab", sum := "449cd392269dbb3e698f3677d7c7f2499b3e9786086b3df094ebb83e532fff57", func := "quarantine/quarantinelaw9.SchemaRefs", spec := "schemaRefs", unfollowed := true, recurses := true, apart := false, narrowed := true }
def SchemaRefsUptoSaid : Prop := schemaRefsUptoRow.holds Try.pinned (OpenSpec.upto schemaRefsSpec)

end Rows
end Go.Proofs.Ytnboooaockgoiab
