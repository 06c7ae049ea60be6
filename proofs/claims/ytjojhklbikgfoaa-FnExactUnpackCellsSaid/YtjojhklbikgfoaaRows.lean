/-
  No cell of these rows narrows 'for every input' (looked for: loops, veiled, ifaces, maps, wideKeys, modest, calm, conditions, laid).
  DERIVED. THE GIVEN ROWS OF THIS SEAT. 11 by the template 'for every input the law returns true; each argument reads behind the call as it read before'; 0 by the template 'total and deterministic' (their statements: YtjojhklbikgfoaaTotals.lean).
  GIVEN WITH THE SEED: the statements are not yours to turn. If you find one false, say at which input.
  Laid BY PROGRAM, IN A SANDBOX (cutbox-rows.mjs): the forced cells as the released guide's own fill.sh prints them over the translation 038051925eb1a9ad… (all of the seat's roots in one cut). By AI agents, Wed Nov 11 2026. No macro, syntax, notation, axiom, sorry.
-/
import Derived.Test.YtjojhklbikgfoaaChecked
import GoSem.Claim
import GoSem.ClaimJoined
import GoSem.ClaimMapViews
import Derived.JoinedTies
import Derived.KernelRfl
namespace Go.Proofs.Ytjojhklbikgfoaa
/- THE CELL 'sum', in the pinned program and in every row, IS THE sha256 OF THE DUMP (.gsa) THAT YtjojhklbikgfoaaProg.lean LOADS. Nothing in Lean hashes anything: it is a label: what it is worth is what the hold of that sum in a sandbox is worth. -/
noncomputable def Try.pinned : Pinned := { name := "ytjojhklbikgfoaa", sum := "038051925eb1a9ad19b01e83fc3b80fbc61290a4e80ccab1b16868c762b09bd5", checked := Try.checked }
namespace Rows
def none {H : Type} : Left H := { results := [], args := [] }

/-- 'laws.FnExactFlipCells': WHATEVER THE INPUT: true; the input reads as it did. -/
def fnExactFlipCellsSpec : ChangeSpec := { name := "fnExactFlipCells", fn := fun _ => fun
  | [d1, d2] => { results := [.lit (.bool true)], args := [d1, d2] }
  | _ => none }
def fnExactFlipCellsRow : OpenClaim := { program := "ytjojhklbikgfoaa", sum := "038051925eb1a9ad19b01e83fc3b80fbc61290a4e80ccab1b16868c762b09bd5", func := "loop.example/g01318/laws.FnExactFlipCells", spec := "fnExactFlipCells", apart := false }
def FnExactFlipCellsSaid : Prop := fnExactFlipCellsRow.holds Try.pinned (OpenSpec.ofChange fnExactFlipCellsSpec)

/-- ITS FALSE NEIGHBOUR: 'it returns false'. Refute it at one input. -/
def fnExactFlipCellsWrong : ChangeSpec := { name := "fnExactFlipCells", fn := fun _ => fun
  | [d1, d2] => { results := [.lit (.bool false)], args := [d1, d2] }
  | _ => none }
def FnExactFlipCellsWrongFalsely : Prop := fnExactFlipCellsRow.holds Try.pinned (OpenSpec.ofChange fnExactFlipCellsWrong)

/-- 'laws.FnExactUnpackCells': WHATEVER THE INPUT: true; the input reads as it did. -/
def fnExactUnpackCellsSpec : ChangeSpec := { name := "fnExactUnpackCells", fn := fun _ => fun
  | [d] => { results := [.lit (.bool true)], args := [d] }
  | _ => none }
def fnExactUnpackCellsRow : OpenClaim := { program := "ytjojhklbikgfoaa", sum := "038051925eb1a9ad19b01e83fc3b80fbc61290a4e80ccab1b16868c762b09bd5", func := "loop.example/g01318/laws.FnExactUnpackCells", spec := "fnExactUnpackCells", apart := false }
def FnExactUnpackCellsSaid : Prop := fnExactUnpackCellsRow.holds Try.pinned (OpenSpec.ofChange fnExactUnpackCellsSpec)

/-- ITS FALSE NEIGHBOUR: 'it returns false'. Refute it at one input. -/
def fnExactUnpackCellsWrong : ChangeSpec := { name := "fnExactUnpackCells", fn := fun _ => fun
  | [d] => { results := [.lit (.bool false)], args := [d] }
  | _ => none }
def FnExactUnpackCellsWrongFalsely : Prop := fnExactUnpackCellsRow.holds Try.pinned (OpenSpec.ofChange fnExactUnpackCellsWrong)

/-- 'laws.FnExactStickOne': WHATEVER THE INPUT: true; the input reads as it did. -/
def fnExactStickOneSpec : ChangeSpec := { name := "fnExactStickOne", fn := fun _ => fun
  | [d1, d2, d3] => { results := [.lit (.bool true)], args := [d1, d2, d3] }
  | _ => none }
def fnExactStickOneRow : OpenClaim := { program := "ytjojhklbikgfoaa", sum := "038051925eb1a9ad19b01e83fc3b80fbc61290a4e80ccab1b16868c762b09bd5", func := "loop.example/g01318/laws.FnExactStickOne", spec := "fnExactStickOne", unfollowed := true, recurses := true, apart := false }
def FnExactStickOneSaid : Prop := fnExactStickOneRow.holds Try.pinned (OpenSpec.ofChange fnExactStickOneSpec)

/-- ITS FALSE NEIGHBOUR: 'it returns false'. Refute it at one input. -/
def fnExactStickOneWrong : ChangeSpec := { name := "fnExactStickOne", fn := fun _ => fun
  | [d1, d2, d3] => { results := [.lit (.bool false)], args := [d1, d2, d3] }
  | _ => none }
def FnExactStickOneWrongFalsely : Prop := fnExactStickOneRow.holds Try.pinned (OpenSpec.ofChange fnExactStickOneWrong)

/-- 'laws.FnExactStickMany': WHATEVER THE INPUT: true; the input reads as it did. -/
def fnExactStickManySpec : ChangeSpec := { name := "fnExactStickMany", fn := fun _ => fun
  | [d1, d2, d3, d4] => { results := [.lit (.bool true)], args := [d1, d2, d3, d4] }
  | _ => none }
def fnExactStickManyRow : OpenClaim := { program := "ytjojhklbikgfoaa", sum := "038051925eb1a9ad19b01e83fc3b80fbc61290a4e80ccab1b16868c762b09bd5", func := "loop.example/g01318/laws.FnExactStickMany", spec := "fnExactStickMany", unfollowed := true, recurses := true, apart := false }
def FnExactStickManySaid : Prop := fnExactStickManyRow.holds Try.pinned (OpenSpec.ofChange fnExactStickManySpec)

/-- ITS FALSE NEIGHBOUR: 'it returns false'. Refute it at one input. -/
def fnExactStickManyWrong : ChangeSpec := { name := "fnExactStickMany", fn := fun _ => fun
  | [d1, d2, d3, d4] => { results := [.lit (.bool false)], args := [d1, d2, d3, d4] }
  | _ => none }
def FnExactStickManyWrongFalsely : Prop := fnExactStickManyRow.holds Try.pinned (OpenSpec.ofChange fnExactStickManyWrong)

/-- 'laws.FnExactMiddleOf': WHATEVER THE INPUT: true; the input reads as it did. -/
def fnExactMiddleOfSpec : ChangeSpec := { name := "fnExactMiddleOf", fn := fun _ => fun
  | [d] => { results := [.lit (.bool true)], args := [d] }
  | _ => none }
def fnExactMiddleOfRow : OpenClaim := { program := "ytjojhklbikgfoaa", sum := "038051925eb1a9ad19b01e83fc3b80fbc61290a4e80ccab1b16868c762b09bd5", func := "loop.example/g01318/laws.FnExactMiddleOf", spec := "fnExactMiddleOf", inPlace := ["math.sqrt"], unfollowed := true, recurses := true, apart := false }
def FnExactMiddleOfSaid : Prop := fnExactMiddleOfRow.holds Try.pinned (OpenSpec.ofChange fnExactMiddleOfSpec)

/-- ITS FALSE NEIGHBOUR: 'it returns false'. Refute it at one input. -/
def fnExactMiddleOfWrong : ChangeSpec := { name := "fnExactMiddleOf", fn := fun _ => fun
  | [d] => { results := [.lit (.bool false)], args := [d] }
  | _ => none }
def FnExactMiddleOfWrongFalsely : Prop := fnExactMiddleOfRow.holds Try.pinned (OpenSpec.ofChange fnExactMiddleOfWrong)

/-- 'laws.FnExactStoreShape': WHATEVER THE INPUT: true; the input reads as it did. -/
def fnExactStoreShapeSpec : ChangeSpec := { name := "fnExactStoreShape", fn := fun _ => fun
  | [d] => { results := [.lit (.bool true)], args := [d] }
  | _ => none }
def fnExactStoreShapeRow : OpenClaim := { program := "ytjojhklbikgfoaa", sum := "038051925eb1a9ad19b01e83fc3b80fbc61290a4e80ccab1b16868c762b09bd5", func := "loop.example/g01318/laws.FnExactStoreShape", spec := "fnExactStoreShape", apart := false }
def FnExactStoreShapeSaid : Prop := fnExactStoreShapeRow.holds Try.pinned (OpenSpec.ofChange fnExactStoreShapeSpec)

/-- ITS FALSE NEIGHBOUR: 'it returns false'. Refute it at one input. -/
def fnExactStoreShapeWrong : ChangeSpec := { name := "fnExactStoreShape", fn := fun _ => fun
  | [d] => { results := [.lit (.bool false)], args := [d] }
  | _ => none }
def FnExactStoreShapeWrongFalsely : Prop := fnExactStoreShapeRow.holds Try.pinned (OpenSpec.ofChange fnExactStoreShapeWrong)

/-- 'laws.FnExactSameShapes': WHATEVER THE INPUT: true; the input reads as it did. -/
def fnExactSameShapesSpec : ChangeSpec := { name := "fnExactSameShapes", fn := fun _ => fun
  | [d1, d2] => { results := [.lit (.bool true)], args := [d1, d2] }
  | _ => none }
def fnExactSameShapesRow : OpenClaim := { program := "ytjojhklbikgfoaa", sum := "038051925eb1a9ad19b01e83fc3b80fbc61290a4e80ccab1b16868c762b09bd5", func := "loop.example/g01318/laws.FnExactSameShapes", spec := "fnExactSameShapes", unfollowed := true, recurses := true, apart := false }
def FnExactSameShapesSaid : Prop := fnExactSameShapesRow.holds Try.pinned (OpenSpec.ofChange fnExactSameShapesSpec)

/-- ITS FALSE NEIGHBOUR: 'it returns false'. Refute it at one input. -/
def fnExactSameShapesWrong : ChangeSpec := { name := "fnExactSameShapes", fn := fun _ => fun
  | [d1, d2] => { results := [.lit (.bool false)], args := [d1, d2] }
  | _ => none }
def FnExactSameShapesWrongFalsely : Prop := fnExactSameShapesRow.holds Try.pinned (OpenSpec.ofChange fnExactSameShapesWrong)

/-- 'laws.FnExactGrowEdge': WHATEVER THE INPUT: true; the input reads as it did. -/
def fnExactGrowEdgeSpec : ChangeSpec := { name := "fnExactGrowEdge", fn := fun _ => fun
  | [d1, d2, d3] => { results := [.lit (.bool true)], args := [d1, d2, d3] }
  | _ => none }
def fnExactGrowEdgeRow : OpenClaim := { program := "ytjojhklbikgfoaa", sum := "038051925eb1a9ad19b01e83fc3b80fbc61290a4e80ccab1b16868c762b09bd5", func := "loop.example/g01318/laws.FnExactGrowEdge", spec := "fnExactGrowEdge", unfollowed := true, recurses := true, apart := false }
def FnExactGrowEdgeSaid : Prop := fnExactGrowEdgeRow.holds Try.pinned (OpenSpec.ofChange fnExactGrowEdgeSpec)

/-- ITS FALSE NEIGHBOUR: 'it returns false'. Refute it at one input. -/
def fnExactGrowEdgeWrong : ChangeSpec := { name := "fnExactGrowEdge", fn := fun _ => fun
  | [d1, d2, d3] => { results := [.lit (.bool false)], args := [d1, d2, d3] }
  | _ => none }
def FnExactGrowEdgeWrongFalsely : Prop := fnExactGrowEdgeRow.holds Try.pinned (OpenSpec.ofChange fnExactGrowEdgeWrong)

/-- 'laws.FnExactGroupsOf': WHATEVER THE INPUT: true; the input reads as it did. -/
def fnExactGroupsOfSpec : ChangeSpec := { name := "fnExactGroupsOf", fn := fun _ => fun
  | [d] => { results := [.lit (.bool true)], args := [d] }
  | _ => none }
def fnExactGroupsOfRow : OpenClaim := { program := "ytjojhklbikgfoaa", sum := "038051925eb1a9ad19b01e83fc3b80fbc61290a4e80ccab1b16868c762b09bd5", func := "loop.example/g01318/laws.FnExactGroupsOf", spec := "fnExactGroupsOf", unfollowed := true, recurses := true, apart := false }
def FnExactGroupsOfSaid : Prop := fnExactGroupsOfRow.holds Try.pinned (OpenSpec.ofChange fnExactGroupsOfSpec)

/-- ITS FALSE NEIGHBOUR: 'it returns false'. Refute it at one input. -/
def fnExactGroupsOfWrong : ChangeSpec := { name := "fnExactGroupsOf", fn := fun _ => fun
  | [d] => { results := [.lit (.bool false)], args := [d] }
  | _ => none }
def FnExactGroupsOfWrongFalsely : Prop := fnExactGroupsOfRow.holds Try.pinned (OpenSpec.ofChange fnExactGroupsOfWrong)

/-- 'laws.FnExactSpansOf': WHATEVER THE INPUT: true; the input reads as it did. -/
def fnExactSpansOfSpec : ChangeSpec := { name := "fnExactSpansOf", fn := fun _ => fun
  | [d] => { results := [.lit (.bool true)], args := [d] }
  | _ => none }
def fnExactSpansOfRow : OpenClaim := { program := "ytjojhklbikgfoaa", sum := "038051925eb1a9ad19b01e83fc3b80fbc61290a4e80ccab1b16868c762b09bd5", func := "loop.example/g01318/laws.FnExactSpansOf", spec := "fnExactSpansOf", unfollowed := true, recurses := true, apart := false }
def FnExactSpansOfSaid : Prop := fnExactSpansOfRow.holds Try.pinned (OpenSpec.ofChange fnExactSpansOfSpec)

/-- ITS FALSE NEIGHBOUR: 'it returns false'. Refute it at one input. -/
def fnExactSpansOfWrong : ChangeSpec := { name := "fnExactSpansOf", fn := fun _ => fun
  | [d] => { results := [.lit (.bool false)], args := [d] }
  | _ => none }
def FnExactSpansOfWrongFalsely : Prop := fnExactSpansOfRow.holds Try.pinned (OpenSpec.ofChange fnExactSpansOfWrong)

/-- 'laws.FnExactHolesOf': WHATEVER THE INPUT: true; the input reads as it did. -/
def fnExactHolesOfSpec : ChangeSpec := { name := "fnExactHolesOf", fn := fun _ => fun
  | [d] => { results := [.lit (.bool true)], args := [d] }
  | _ => none }
def fnExactHolesOfRow : OpenClaim := { program := "ytjojhklbikgfoaa", sum := "038051925eb1a9ad19b01e83fc3b80fbc61290a4e80ccab1b16868c762b09bd5", func := "loop.example/g01318/laws.FnExactHolesOf", spec := "fnExactHolesOf", unfollowed := true, recurses := true, apart := false }
def FnExactHolesOfSaid : Prop := fnExactHolesOfRow.holds Try.pinned (OpenSpec.ofChange fnExactHolesOfSpec)

/-- ITS FALSE NEIGHBOUR: 'it returns false'. Refute it at one input. -/
def fnExactHolesOfWrong : ChangeSpec := { name := "fnExactHolesOf", fn := fun _ => fun
  | [d] => { results := [.lit (.bool false)], args := [d] }
  | _ => none }
def FnExactHolesOfWrongFalsely : Prop := fnExactHolesOfRow.holds Try.pinned (OpenSpec.ofChange fnExactHolesOfWrong)

/- THE SECOND FORM. 'bulk': how many values and letters a reading holds, each counted each time it is reached (what is shared counts as often as it is met; a slice's spare places count too). A statement '..UptoSaid' is the law's where the arguments, and the package variables that the reading takes, are together of bulk at most 1048576: NARROWER than '..Said'. Prove '..Said' where nothing that the law and all that it calls make is longer than what came in: it says more and counts as full. Else prove '..UptoSaid'. A law counts once. -/
mutual
def uptoBulk {H : Type} : DataW H → Nat
  | .lit (.string bytes) => bytes.length + 1
  | .lit _ => 1
  | .nil => 1
  | .ptr d => uptoBulk d + 1
  | .slice elems spare => uptoBulkAll elems + uptoBulkAll spare + 1
  | .agg parts => uptoBulkAll parts + 1
  | .iface _ d => uptoBulk d + 1
  | .map entries => uptoBulkEntries entries + 1
  | .held _ => 1
def uptoBulkAll {H : Type} : List (DataW H) → Nat
  | [] => 0
  | d :: r => uptoBulk d + uptoBulkAll r
def uptoBulkEntries {H : Type} : List (Lit × DataW H) → Nat
  | [] => 0
  | x :: r => uptoBulkEntry x + uptoBulkEntries r
def uptoBulkEntry {H : Type} : Lit × DataW H → Nat
  | (.string bytes, d) => bytes.length + uptoBulk d + 1
  | (_, d) => uptoBulk d + 1
 end
def uptoSmall : (H : Type) → List (DataW H) → Bool := fun _ ds => decide (uptoBulkAll ds ≤ 1048576)
def OpenSpec.upto (s : _root_.Go.ChangeSpec) : _root_.Go.OpenSpec := { _root_.Go.OpenSpec.ofChange s with cond := some uptoSmall }

/-- 'laws.FnExactFlipCells', WHERE WHAT IT READS IS OF BULK AT MOST 1048576: true; the input reads as it did. -/
def fnExactFlipCellsUptoRow : OpenClaim := { program := "ytjojhklbikgfoaa", sum := "038051925eb1a9ad19b01e83fc3b80fbc61290a4e80ccab1b16868c762b09bd5", func := "loop.example/g01318/laws.FnExactFlipCells", spec := "fnExactFlipCells", apart := false, narrowed := true }
def FnExactFlipCellsUptoSaid : Prop := fnExactFlipCellsUptoRow.holds Try.pinned (OpenSpec.upto fnExactFlipCellsSpec)

/-- 'laws.FnExactUnpackCells', WHERE WHAT IT READS IS OF BULK AT MOST 1048576: true; the input reads as it did. -/
def fnExactUnpackCellsUptoRow : OpenClaim := { program := "ytjojhklbikgfoaa", sum := "038051925eb1a9ad19b01e83fc3b80fbc61290a4e80ccab1b16868c762b09bd5", func := "loop.example/g01318/laws.FnExactUnpackCells", spec := "fnExactUnpackCells", apart := false, narrowed := true }
def FnExactUnpackCellsUptoSaid : Prop := fnExactUnpackCellsUptoRow.holds Try.pinned (OpenSpec.upto fnExactUnpackCellsSpec)

/-- 'laws.FnExactStickOne', WHERE WHAT IT READS IS OF BULK AT MOST 1048576: true; the input reads as it did. -/
def fnExactStickOneUptoRow : OpenClaim := { program := "ytjojhklbikgfoaa", sum := "038051925eb1a9ad19b01e83fc3b80fbc61290a4e80ccab1b16868c762b09bd5", func := "loop.example/g01318/laws.FnExactStickOne", spec := "fnExactStickOne", unfollowed := true, recurses := true, apart := false, narrowed := true }
def FnExactStickOneUptoSaid : Prop := fnExactStickOneUptoRow.holds Try.pinned (OpenSpec.upto fnExactStickOneSpec)

/-- 'laws.FnExactStickMany', WHERE WHAT IT READS IS OF BULK AT MOST 1048576: true; the input reads as it did. -/
def fnExactStickManyUptoRow : OpenClaim := { program := "ytjojhklbikgfoaa", sum := "038051925eb1a9ad19b01e83fc3b80fbc61290a4e80ccab1b16868c762b09bd5", func := "loop.example/g01318/laws.FnExactStickMany", spec := "fnExactStickMany", unfollowed := true, recurses := true, apart := false, narrowed := true }
def FnExactStickManyUptoSaid : Prop := fnExactStickManyUptoRow.holds Try.pinned (OpenSpec.upto fnExactStickManySpec)

/-- 'laws.FnExactMiddleOf', WHERE WHAT IT READS IS OF BULK AT MOST 1048576: true; the input reads as it did. -/
def fnExactMiddleOfUptoRow : OpenClaim := { program := "ytjojhklbikgfoaa", sum := "038051925eb1a9ad19b01e83fc3b80fbc61290a4e80ccab1b16868c762b09bd5", func := "loop.example/g01318/laws.FnExactMiddleOf", spec := "fnExactMiddleOf", inPlace := ["math.sqrt"], unfollowed := true, recurses := true, apart := false, narrowed := true }
def FnExactMiddleOfUptoSaid : Prop := fnExactMiddleOfUptoRow.holds Try.pinned (OpenSpec.upto fnExactMiddleOfSpec)

/-- 'laws.FnExactStoreShape', WHERE WHAT IT READS IS OF BULK AT MOST 1048576: true; the input reads as it did. -/
def fnExactStoreShapeUptoRow : OpenClaim := { program := "ytjojhklbikgfoaa", sum := "038051925eb1a9ad19b01e83fc3b80fbc61290a4e80ccab1b16868c762b09bd5", func := "loop.example/g01318/laws.FnExactStoreShape", spec := "fnExactStoreShape", apart := false, narrowed := true }
def FnExactStoreShapeUptoSaid : Prop := fnExactStoreShapeUptoRow.holds Try.pinned (OpenSpec.upto fnExactStoreShapeSpec)

/-- 'laws.FnExactSameShapes', WHERE WHAT IT READS IS OF BULK AT MOST 1048576: true; the input reads as it did. -/
def fnExactSameShapesUptoRow : OpenClaim := { program := "ytjojhklbikgfoaa", sum := "038051925eb1a9ad19b01e83fc3b80fbc61290a4e80ccab1b16868c762b09bd5", func := "loop.example/g01318/laws.FnExactSameShapes", spec := "fnExactSameShapes", unfollowed := true, recurses := true, apart := false, narrowed := true }
def FnExactSameShapesUptoSaid : Prop := fnExactSameShapesUptoRow.holds Try.pinned (OpenSpec.upto fnExactSameShapesSpec)

/-- 'laws.FnExactGrowEdge', WHERE WHAT IT READS IS OF BULK AT MOST 1048576: true; the input reads as it did. -/
def fnExactGrowEdgeUptoRow : OpenClaim := { program := "ytjojhklbikgfoaa", sum := "038051925eb1a9ad19b01e83fc3b80fbc61290a4e80ccab1b16868c762b09bd5", func := "loop.example/g01318/laws.FnExactGrowEdge", spec := "fnExactGrowEdge", unfollowed := true, recurses := true, apart := false, narrowed := true }
def FnExactGrowEdgeUptoSaid : Prop := fnExactGrowEdgeUptoRow.holds Try.pinned (OpenSpec.upto fnExactGrowEdgeSpec)

/-- 'laws.FnExactGroupsOf', WHERE WHAT IT READS IS OF BULK AT MOST 1048576: true; the input reads as it did. -/
def fnExactGroupsOfUptoRow : OpenClaim := { program := "ytjojhklbikgfoaa", sum := "038051925eb1a9ad19b01e83fc3b80fbc61290a4e80ccab1b16868c762b09bd5", func := "loop.example/g01318/laws.FnExactGroupsOf", spec := "fnExactGroupsOf", unfollowed := true, recurses := true, apart := false, narrowed := true }
def FnExactGroupsOfUptoSaid : Prop := fnExactGroupsOfUptoRow.holds Try.pinned (OpenSpec.upto fnExactGroupsOfSpec)

/-- 'laws.FnExactSpansOf', WHERE WHAT IT READS IS OF BULK AT MOST 1048576: true; the input reads as it did. -/
def fnExactSpansOfUptoRow : OpenClaim := { program := "ytjojhklbikgfoaa", sum := "038051925eb1a9ad19b01e83fc3b80fbc61290a4e80ccab1b16868c762b09bd5", func := "loop.example/g01318/laws.FnExactSpansOf", spec := "fnExactSpansOf", unfollowed := true, recurses := true, apart := false, narrowed := true }
def FnExactSpansOfUptoSaid : Prop := fnExactSpansOfUptoRow.holds Try.pinned (OpenSpec.upto fnExactSpansOfSpec)

/-- 'laws.FnExactHolesOf', WHERE WHAT IT READS IS OF BULK AT MOST 1048576: true; the input reads as it did. -/
def fnExactHolesOfUptoRow : OpenClaim := { program := "ytjojhklbikgfoaa", sum := "038051925eb1a9ad19b01e83fc3b80fbc61290a4e80ccab1b16868c762b09bd5", func := "loop.example/g01318/laws.FnExactHolesOf", spec := "fnExactHolesOf", unfollowed := true, recurses := true, apart := false, narrowed := true }
def FnExactHolesOfUptoSaid : Prop := fnExactHolesOfUptoRow.holds Try.pinned (OpenSpec.upto fnExactHolesOfSpec)

end Rows
end Go.Proofs.Ytjojhklbikgfoaa
