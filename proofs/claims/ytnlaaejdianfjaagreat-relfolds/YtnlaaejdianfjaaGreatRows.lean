/-
  No cell of these rows narrows 'for every input' (looked for: loops, veiled, ifaces, maps, wideKeys, modest, calm, conditions, laid).
  DERIVED. THE GIVEN ROWS OF THIS SEAT. 6 by the template 'for every input the law returns true; each argument reads behind the call as it read before'; 0 by the template 'total and deterministic' (their statements: YtnlaaejdianfjaaGreatTotals.lean).
  GIVEN WITH THE SEED: the statements are not yours to turn. If you find one false, say at which input.
  Laid BY PROGRAM, IN A SANDBOX (cutbox-rows.mjs): the forced cells as the released guide's own fill.sh prints them over the translation d2dd4787e6bddd43… (all of the seat's roots in one cut). By AI agents, Wed Nov 11 2026. No macro, syntax, notation, axiom, sorry.
-/
import Derived.Test.YtnlaaejdianfjaaGreatChecked
import GoSem.Claim
import GoSem.ClaimJoined
import GoSem.ClaimMapViews
import Derived.JoinedTies
import Derived.KernelRfl
namespace Go.Proofs.YtnlaaejdianfjaaGreat
/- THE CELL 'sum', in the pinned program and in every row, IS THE sha256 OF THE DUMP (.gsa) THAT YtnlaaejdianfjaaGreatProg.lean LOADS. Nothing in Lean hashes anything: it is a label: what it is worth is what the hold of that sum in a sandbox is worth. -/
noncomputable def Tryz.pinned : Pinned := { name := "ytnlaaejdianfjaagreat", sum := "d2dd4787e6bddd43aa0c785c01784c0b0ce05971fe7727195ac31f9fb3bbf10f", checked := Tryz.checked }
namespace Rows
def none {H : Type} : Left H := { results := [], args := [] }

/-- 'quarantinelaw12.RelAll': WHATEVER THE INPUT: true; the input reads as it did. -/
def relAllSpec : ChangeSpec := { name := "relAll", fn := fun _ => fun
  | [d1, d2, d3] => { results := [.lit (.bool true)], args := [d1, d2, d3] }
  | _ => none }
def relAllRow : OpenClaim := { program := "ytnlaaejdianfjaagreat", sum := "d2dd4787e6bddd43aa0c785c01784c0b0ce05971fe7727195ac31f9fb3bbf10f", func := "quarantine/quarantinelaw12.RelAll", spec := "relAll", unfollowed := true, recurses := true, apart := false }
def RelAllSaid : Prop := relAllRow.holds Tryz.pinned (OpenSpec.ofChange relAllSpec)

/-- ITS FALSE NEIGHBOUR: 'it returns false'. Refute it at one input. -/
def relAllWrong : ChangeSpec := { name := "relAll", fn := fun _ => fun
  | [d1, d2, d3] => { results := [.lit (.bool false)], args := [d1, d2, d3] }
  | _ => none }
def RelAllWrongFalsely : Prop := relAllRow.holds Tryz.pinned (OpenSpec.ofChange relAllWrong)

/-- 'quarantinelaw12.RelSorts': WHATEVER THE INPUT: true; the input reads as it did. -/
def relSortsSpec : ChangeSpec := { name := "relSorts", fn := fun _ => fun
  | [d1, d2, d3] => { results := [.lit (.bool true)], args := [d1, d2, d3] }
  | _ => none }
def relSortsRow : OpenClaim := { program := "ytnlaaejdianfjaagreat", sum := "d2dd4787e6bddd43aa0c785c01784c0b0ce05971fe7727195ac31f9fb3bbf10f", func := "quarantine/quarantinelaw12.RelSorts", spec := "relSorts", unfollowed := true, recurses := true, apart := false }
def RelSortsSaid : Prop := relSortsRow.holds Tryz.pinned (OpenSpec.ofChange relSortsSpec)

/-- ITS FALSE NEIGHBOUR: 'it returns false'. Refute it at one input. -/
def relSortsWrong : ChangeSpec := { name := "relSorts", fn := fun _ => fun
  | [d1, d2, d3] => { results := [.lit (.bool false)], args := [d1, d2, d3] }
  | _ => none }
def RelSortsWrongFalsely : Prop := relSortsRow.holds Tryz.pinned (OpenSpec.ofChange relSortsWrong)

/-- 'quarantinelaw12.RelCounts': WHATEVER THE INPUT: true; the input reads as it did. -/
def relCountsSpec : ChangeSpec := { name := "relCounts", fn := fun _ => fun
  | [d1, d2, d3] => { results := [.lit (.bool true)], args := [d1, d2, d3] }
  | _ => none }
def relCountsRow : OpenClaim := { program := "ytnlaaejdianfjaagreat", sum := "d2dd4787e6bddd43aa0c785c01784c0b0ce05971fe7727195ac31f9fb3bbf10f", func := "quarantine/quarantinelaw12.RelCounts", spec := "relCounts", unfollowed := true, recurses := true, apart := false }
def RelCountsSaid : Prop := relCountsRow.holds Tryz.pinned (OpenSpec.ofChange relCountsSpec)

/-- ITS FALSE NEIGHBOUR: 'it returns false'. Refute it at one input. -/
def relCountsWrong : ChangeSpec := { name := "relCounts", fn := fun _ => fun
  | [d1, d2, d3] => { results := [.lit (.bool false)], args := [d1, d2, d3] }
  | _ => none }
def RelCountsWrongFalsely : Prop := relCountsRow.holds Tryz.pinned (OpenSpec.ofChange relCountsWrong)

/-- 'quarantinelaw12.RelOrders': WHATEVER THE INPUT: true; the input reads as it did. -/
def relOrdersSpec : ChangeSpec := { name := "relOrders", fn := fun _ => fun
  | [d1, d2, d3] => { results := [.lit (.bool true)], args := [d1, d2, d3] }
  | _ => none }
def relOrdersRow : OpenClaim := { program := "ytnlaaejdianfjaagreat", sum := "d2dd4787e6bddd43aa0c785c01784c0b0ce05971fe7727195ac31f9fb3bbf10f", func := "quarantine/quarantinelaw12.RelOrders", spec := "relOrders", unfollowed := true, recurses := true, apart := false }
def RelOrdersSaid : Prop := relOrdersRow.holds Tryz.pinned (OpenSpec.ofChange relOrdersSpec)

/-- ITS FALSE NEIGHBOUR: 'it returns false'. Refute it at one input. -/
def relOrdersWrong : ChangeSpec := { name := "relOrders", fn := fun _ => fun
  | [d1, d2, d3] => { results := [.lit (.bool false)], args := [d1, d2, d3] }
  | _ => none }
def RelOrdersWrongFalsely : Prop := relOrdersRow.holds Tryz.pinned (OpenSpec.ofChange relOrdersWrong)

/-- 'quarantinelaw12.RelWhere': WHATEVER THE INPUT: true; the input reads as it did. -/
def relWhereSpec : ChangeSpec := { name := "relWhere", fn := fun _ => fun
  | [d1, d2, d3] => { results := [.lit (.bool true)], args := [d1, d2, d3] }
  | _ => none }
def relWhereRow : OpenClaim := { program := "ytnlaaejdianfjaagreat", sum := "d2dd4787e6bddd43aa0c785c01784c0b0ce05971fe7727195ac31f9fb3bbf10f", func := "quarantine/quarantinelaw12.RelWhere", spec := "relWhere", unfollowed := true, recurses := true, apart := false }
def RelWhereSaid : Prop := relWhereRow.holds Tryz.pinned (OpenSpec.ofChange relWhereSpec)

/-- ITS FALSE NEIGHBOUR: 'it returns false'. Refute it at one input. -/
def relWhereWrong : ChangeSpec := { name := "relWhere", fn := fun _ => fun
  | [d1, d2, d3] => { results := [.lit (.bool false)], args := [d1, d2, d3] }
  | _ => none }
def RelWhereWrongFalsely : Prop := relWhereRow.holds Tryz.pinned (OpenSpec.ofChange relWhereWrong)

/-- 'quarantinelaw12.RelFolds': WHATEVER THE INPUT: true; the input reads as it did. -/
def relFoldsSpec : ChangeSpec := { name := "relFolds", fn := fun _ => fun
  | [d1, d2, d3] => { results := [.lit (.bool true)], args := [d1, d2, d3] }
  | _ => none }
def relFoldsRow : OpenClaim := { program := "ytnlaaejdianfjaagreat", sum := "d2dd4787e6bddd43aa0c785c01784c0b0ce05971fe7727195ac31f9fb3bbf10f", func := "quarantine/quarantinelaw12.RelFolds", spec := "relFolds", unfollowed := true, recurses := true, apart := false }
def RelFoldsSaid : Prop := relFoldsRow.holds Tryz.pinned (OpenSpec.ofChange relFoldsSpec)

/-- ITS FALSE NEIGHBOUR: 'it returns false'. Refute it at one input. -/
def relFoldsWrong : ChangeSpec := { name := "relFolds", fn := fun _ => fun
  | [d1, d2, d3] => { results := [.lit (.bool false)], args := [d1, d2, d3] }
  | _ => none }
def RelFoldsWrongFalsely : Prop := relFoldsRow.holds Tryz.pinned (OpenSpec.ofChange relFoldsWrong)

/- THE SECOND FORM. 'bulk': how many values and letters a reading holds, each counted each time it is reached (what is shared counts as often as it is met; a slice's spare places count too). A statement '..UptoSaid' is the law's where the arguments, and the package variables that the reading takes, are together of bulk at most 1048576: NARROWER than '..Said'. Prove '..Said' where nothing that the law and all that it calls make is longer than what came in: it says more and counts as full. Else prove '..UptoSaid'. A law counts once. -/
mutual
def uptoBulk {H : Type} : DataW H → Nat
  | .lit (.string bytes) => bytes.length + 1
  | .lit _ => 1
  | .nil => 1
  | .ptr d => uptoBulk d + 1
  | .slice elems spare => uptoBulkAll elems + uptoBulkAll spare + 1
  | .agg parts => uptoBulkAll parts + 1
  | .iface _ d => uptoBulk d + 1
  | .map entries => uptoBulkEntries entries + 1
  | .held _ => 1
def uptoBulkAll {H : Type} : List (DataW H) → Nat
  | [] => 0
  | d :: r => uptoBulk d + uptoBulkAll r
def uptoBulkEntries {H : Type} : List (Lit × DataW H) → Nat
  | [] => 0
  | x :: r => uptoBulkEntry x + uptoBulkEntries r
def uptoBulkEntry {H : Type} : Lit × DataW H → Nat
  | (.string bytes, d) => bytes.length + uptoBulk d + 1
  | (_, d) => uptoBulk d + 1
 end
def uptoSmall : (H : Type) → List (DataW H) → Bool := fun _ ds => decide (uptoBulkAll ds ≤ 1048576)
def OpenSpec.upto (s : _root_.Go.ChangeSpec) : _root_.Go.OpenSpec := { _root_.Go.OpenSpec.ofChange s with cond := some uptoSmall }

/-- 'quarantinelaw12.RelAll', WHERE WHAT IT READS IS OF BULK AT MOST 1048576: true; the input reads as it did. -/
def relAllUptoRow : OpenClaim := { program := "ytnlaaejdianfjaagreat", sum := "d2dd4787e6bddd43aa0c785c01784c0b0ce05971fe7727195ac31f9fb3bbf10f", func := "quarantine/quarantinelaw12.RelAll", spec := "relAll", unfollowed := true, recurses := true, apart := false, narrowed := true }
def RelAllUptoSaid : Prop := relAllUptoRow.holds Tryz.pinned (OpenSpec.upto relAllSpec)

/-- 'quarantinelaw12.RelSorts', WHERE WHAT IT READS IS OF BULK AT MOST 1048576: true; the input reads as it did. -/
def relSortsUptoRow : OpenClaim := { program := "ytnlaaejdianfjaagreat", sum := "d2dd4787e6bddd43aa0c785c01784c0b0ce05971fe7727195ac31f9fb3bbf10f", func := "quarantine/quarantinelaw12.RelSorts", spec := "relSorts", unfollowed := true, recurses := true, apart := false, narrowed := true }
def RelSortsUptoSaid : Prop := relSortsUptoRow.holds Tryz.pinned (OpenSpec.upto relSortsSpec)

/-- 'quarantinelaw12.RelCounts', WHERE WHAT IT READS IS OF BULK AT MOST 1048576: true; the input reads as it did. -/
def relCountsUptoRow : OpenClaim := { program := "ytnlaaejdianfjaagreat", sum := "d2dd4787e6bddd43aa0c785c01784c0b0ce05971fe7727195ac31f9fb3bbf10f", func := "quarantine/quarantinelaw12.RelCounts", spec := "relCounts", unfollowed := true, recurses := true, apart := false, narrowed := true }
def RelCountsUptoSaid : Prop := relCountsUptoRow.holds Tryz.pinned (OpenSpec.upto relCountsSpec)

/-- 'quarantinelaw12.RelOrders', WHERE WHAT IT READS IS OF BULK AT MOST 1048576: true; the input reads as it did. -/
def relOrdersUptoRow : OpenClaim := { program := "ytnlaaejdianfjaagreat", sum := "d2dd4787e6bddd43aa0c785c01784c0b0ce05971fe7727195ac31f9fb3bbf10f", func := "quarantine/quarantinelaw12.RelOrders", spec := "relOrders", unfollowed := true, recurses := true, apart := false, narrowed := true }
def RelOrdersUptoSaid : Prop := relOrdersUptoRow.holds Tryz.pinned (OpenSpec.upto relOrdersSpec)

/-- 'quarantinelaw12.RelWhere', WHERE WHAT IT READS IS OF BULK AT MOST 1048576: true; the input reads as it did. -/
def relWhereUptoRow : OpenClaim := { program := "ytnlaaejdianfjaagreat", sum := "d2dd4787e6bddd43aa0c785c01784c0b0ce05971fe7727195ac31f9fb3bbf10f", func := "quarantine/quarantinelaw12.RelWhere", spec := "relWhere", unfollowed := true, recurses := true, apart := false, narrowed := true }
def RelWhereUptoSaid : Prop := relWhereUptoRow.holds Tryz.pinned (OpenSpec.upto relWhereSpec)

/-- 'quarantinelaw12.RelFolds', WHERE WHAT IT READS IS OF BULK AT MOST 1048576: true; the input reads as it did. -/
def relFoldsUptoRow : OpenClaim := { program := "ytnlaaejdianfjaagreat", sum := "d2dd4787e6bddd43aa0c785c01784c0b0ce05971fe7727195ac31f9fb3bbf10f", func := "quarantine/quarantinelaw12.RelFolds", spec := "relFolds", unfollowed := true, recurses := true, apart := false, narrowed := true }
def RelFoldsUptoSaid : Prop := relFoldsUptoRow.holds Tryz.pinned (OpenSpec.upto relFoldsSpec)

end Rows
end Go.Proofs.YtnlaaejdianfjaaGreat
