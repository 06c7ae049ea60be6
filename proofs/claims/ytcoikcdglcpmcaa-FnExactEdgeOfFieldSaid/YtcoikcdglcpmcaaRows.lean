/-
  No cell of these rows narrows 'for every input' (looked for: loops, veiled, ifaces, maps, wideKeys, modest, calm, conditions, laid).
  DERIVED. THE GIVEN ROWS OF THIS SEAT. 12 by the template 'for every input the law returns true; each argument reads behind the call as it read before'; 0 by the template 'total and deterministic' (their statements: YtcoikcdglcpmcaaTotals.lean).
  GIVEN WITH THE SEED: the statements are not yours to turn. If you find one false, say at which input.
  Laid BY PROGRAM, IN A SANDBOX (cutbox-rows.mjs): the forced cells as the released guide's own fill.sh prints them over the translation 564cbee3eece7b9a… (all of the seat's roots in one cut). By AI agents, Wed Nov 11 2026. No macro, syntax, notation, axiom, sorry.
-/
import Derived.Test.YtcoikcdglcpmcaaChecked
import GoSem.Claim
import GoSem.ClaimJoined
import GoSem.ClaimMapViews
import Derived.JoinedTies
import Derived.KernelRfl
namespace Go.Proofs.Ytcoikcdglcpmcaa
/- THE CELL 'sum', in the pinned program and in every row, IS THE sha256 OF THE DUMP (.gsa) THAT YtcoikcdglcpmcaaProg.lean LOADS. Nothing in Lean hashes anything: it is a label: what it is worth is what the hold of that sum in a sandbox is worth. -/
noncomputable def Try.pinned : Pinned := { name := "ytcoikcdglcpmcaa", sum := "564cbee3eece7b9acdcc739fd30486324e302457ca2b8829dd5d2d74f480bee5", checked := Try.checked }
namespace Rows
def none {H : Type} : Left H := { results := [], args := [] }

/-- 'laws.FnExactValidField': WHATEVER THE INPUT: true; the input reads as it did. -/
def fnExactValidFieldSpec : ChangeSpec := { name := "fnExactValidField", fn := fun _ => fun
  | [d] => { results := [.lit (.bool true)], args := [d] }
  | _ => none }
def fnExactValidFieldRow : OpenClaim := { program := "ytcoikcdglcpmcaa", sum := "564cbee3eece7b9acdcc739fd30486324e302457ca2b8829dd5d2d74f480bee5", func := "loop.example/g01318/laws.FnExactValidField", spec := "fnExactValidField", apart := false }
def FnExactValidFieldSaid : Prop := fnExactValidFieldRow.holds Try.pinned (OpenSpec.ofChange fnExactValidFieldSpec)

/-- ITS FALSE NEIGHBOUR: 'it returns false'. Refute it at one input. -/
def fnExactValidFieldWrong : ChangeSpec := { name := "fnExactValidField", fn := fun _ => fun
  | [d] => { results := [.lit (.bool false)], args := [d] }
  | _ => none }
def FnExactValidFieldWrongFalsely : Prop := fnExactValidFieldRow.holds Try.pinned (OpenSpec.ofChange fnExactValidFieldWrong)

/-- 'laws.FnExactSameField': WHATEVER THE INPUT: true; the input reads as it did. -/
def fnExactSameFieldSpec : ChangeSpec := { name := "fnExactSameField", fn := fun _ => fun
  | [d1, d2] => { results := [.lit (.bool true)], args := [d1, d2] }
  | _ => none }
def fnExactSameFieldRow : OpenClaim := { program := "ytcoikcdglcpmcaa", sum := "564cbee3eece7b9acdcc739fd30486324e302457ca2b8829dd5d2d74f480bee5", func := "loop.example/g01318/laws.FnExactSameField", spec := "fnExactSameField", apart := false }
def FnExactSameFieldSaid : Prop := fnExactSameFieldRow.holds Try.pinned (OpenSpec.ofChange fnExactSameFieldSpec)

/-- ITS FALSE NEIGHBOUR: 'it returns false'. Refute it at one input. -/
def fnExactSameFieldWrong : ChangeSpec := { name := "fnExactSameField", fn := fun _ => fun
  | [d1, d2] => { results := [.lit (.bool false)], args := [d1, d2] }
  | _ => none }
def FnExactSameFieldWrongFalsely : Prop := fnExactSameFieldRow.holds Try.pinned (OpenSpec.ofChange fnExactSameFieldWrong)

/-- 'laws.FnExactEmptyField': WHATEVER THE INPUT: true; the input reads as it did. -/
def fnExactEmptyFieldSpec : ChangeSpec := { name := "fnExactEmptyField", fn := fun _ => fun
  | [d1, d2] => { results := [.lit (.bool true)], args := [d1, d2] }
  | _ => none }
def fnExactEmptyFieldRow : OpenClaim := { program := "ytcoikcdglcpmcaa", sum := "564cbee3eece7b9acdcc739fd30486324e302457ca2b8829dd5d2d74f480bee5", func := "loop.example/g01318/laws.FnExactEmptyField", spec := "fnExactEmptyField", apart := false }
def FnExactEmptyFieldSaid : Prop := fnExactEmptyFieldRow.holds Try.pinned (OpenSpec.ofChange fnExactEmptyFieldSpec)

/-- ITS FALSE NEIGHBOUR: 'it returns false'. Refute it at one input. -/
def fnExactEmptyFieldWrong : ChangeSpec := { name := "fnExactEmptyField", fn := fun _ => fun
  | [d1, d2] => { results := [.lit (.bool false)], args := [d1, d2] }
  | _ => none }
def FnExactEmptyFieldWrongFalsely : Prop := fnExactEmptyFieldRow.holds Try.pinned (OpenSpec.ofChange fnExactEmptyFieldWrong)

/-- 'laws.FnExactCountCells': WHATEVER THE INPUT: true; the input reads as it did. -/
def fnExactCountCellsSpec : ChangeSpec := { name := "fnExactCountCells", fn := fun _ => fun
  | [d] => { results := [.lit (.bool true)], args := [d] }
  | _ => none }
def fnExactCountCellsRow : OpenClaim := { program := "ytcoikcdglcpmcaa", sum := "564cbee3eece7b9acdcc739fd30486324e302457ca2b8829dd5d2d74f480bee5", func := "loop.example/g01318/laws.FnExactCountCells", spec := "fnExactCountCells", apart := false }
def FnExactCountCellsSaid : Prop := fnExactCountCellsRow.holds Try.pinned (OpenSpec.ofChange fnExactCountCellsSpec)

/-- ITS FALSE NEIGHBOUR: 'it returns false'. Refute it at one input. -/
def fnExactCountCellsWrong : ChangeSpec := { name := "fnExactCountCells", fn := fun _ => fun
  | [d] => { results := [.lit (.bool false)], args := [d] }
  | _ => none }
def FnExactCountCellsWrongFalsely : Prop := fnExactCountCellsRow.holds Try.pinned (OpenSpec.ofChange fnExactCountCellsWrong)

/-- 'laws.FnExactFlipCells': WHATEVER THE INPUT: true; the input reads as it did. -/
def fnExactFlipCellsSpec : ChangeSpec := { name := "fnExactFlipCells", fn := fun _ => fun
  | [d1, d2] => { results := [.lit (.bool true)], args := [d1, d2] }
  | _ => none }
def fnExactFlipCellsRow : OpenClaim := { program := "ytcoikcdglcpmcaa", sum := "564cbee3eece7b9acdcc739fd30486324e302457ca2b8829dd5d2d74f480bee5", func := "loop.example/g01318/laws.FnExactFlipCells", spec := "fnExactFlipCells", apart := false }
def FnExactFlipCellsSaid : Prop := fnExactFlipCellsRow.holds Try.pinned (OpenSpec.ofChange fnExactFlipCellsSpec)

/-- ITS FALSE NEIGHBOUR: 'it returns false'. Refute it at one input. -/
def fnExactFlipCellsWrong : ChangeSpec := { name := "fnExactFlipCells", fn := fun _ => fun
  | [d1, d2] => { results := [.lit (.bool false)], args := [d1, d2] }
  | _ => none }
def FnExactFlipCellsWrongFalsely : Prop := fnExactFlipCellsRow.holds Try.pinned (OpenSpec.ofChange fnExactFlipCellsWrong)

/-- 'laws.FnExactDrawnField': WHATEVER THE INPUT: true; the input reads as it did. -/
def fnExactDrawnFieldSpec : ChangeSpec := { name := "fnExactDrawnField", fn := fun _ => fun
  | [d1, d2, d3, d4] => { results := [.lit (.bool true)], args := [d1, d2, d3, d4] }
  | _ => none }
def fnExactDrawnFieldRow : OpenClaim := { program := "ytcoikcdglcpmcaa", sum := "564cbee3eece7b9acdcc739fd30486324e302457ca2b8829dd5d2d74f480bee5", func := "loop.example/g01318/laws.FnExactDrawnField", spec := "fnExactDrawnField", apart := false }
def FnExactDrawnFieldSaid : Prop := fnExactDrawnFieldRow.holds Try.pinned (OpenSpec.ofChange fnExactDrawnFieldSpec)

/-- ITS FALSE NEIGHBOUR: 'it returns false'. Refute it at one input. -/
def fnExactDrawnFieldWrong : ChangeSpec := { name := "fnExactDrawnField", fn := fun _ => fun
  | [d1, d2, d3, d4] => { results := [.lit (.bool false)], args := [d1, d2, d3, d4] }
  | _ => none }
def FnExactDrawnFieldWrongFalsely : Prop := fnExactDrawnFieldRow.holds Try.pinned (OpenSpec.ofChange fnExactDrawnFieldWrong)

/-- 'laws.FnExactValidShape': WHATEVER THE INPUT: true; the input reads as it did. -/
def fnExactValidShapeSpec : ChangeSpec := { name := "fnExactValidShape", fn := fun _ => fun
  | [d] => { results := [.lit (.bool true)], args := [d] }
  | _ => none }
def fnExactValidShapeRow : OpenClaim := { program := "ytcoikcdglcpmcaa", sum := "564cbee3eece7b9acdcc739fd30486324e302457ca2b8829dd5d2d74f480bee5", func := "loop.example/g01318/laws.FnExactValidShape", spec := "fnExactValidShape", apart := false }
def FnExactValidShapeSaid : Prop := fnExactValidShapeRow.holds Try.pinned (OpenSpec.ofChange fnExactValidShapeSpec)

/-- ITS FALSE NEIGHBOUR: 'it returns false'. Refute it at one input. -/
def fnExactValidShapeWrong : ChangeSpec := { name := "fnExactValidShape", fn := fun _ => fun
  | [d] => { results := [.lit (.bool false)], args := [d] }
  | _ => none }
def FnExactValidShapeWrongFalsely : Prop := fnExactValidShapeRow.holds Try.pinned (OpenSpec.ofChange fnExactValidShapeWrong)

/-- 'laws.FnExactPackCells': WHATEVER THE INPUT: true; the input reads as it did. -/
def fnExactPackCellsSpec : ChangeSpec := { name := "fnExactPackCells", fn := fun _ => fun
  | [d] => { results := [.lit (.bool true)], args := [d] }
  | _ => none }
def fnExactPackCellsRow : OpenClaim := { program := "ytcoikcdglcpmcaa", sum := "564cbee3eece7b9acdcc739fd30486324e302457ca2b8829dd5d2d74f480bee5", func := "loop.example/g01318/laws.FnExactPackCells", spec := "fnExactPackCells", apart := false }
def FnExactPackCellsSaid : Prop := fnExactPackCellsRow.holds Try.pinned (OpenSpec.ofChange fnExactPackCellsSpec)

/-- ITS FALSE NEIGHBOUR: 'it returns false'. Refute it at one input. -/
def fnExactPackCellsWrong : ChangeSpec := { name := "fnExactPackCells", fn := fun _ => fun
  | [d] => { results := [.lit (.bool false)], args := [d] }
  | _ => none }
def FnExactPackCellsWrongFalsely : Prop := fnExactPackCellsRow.holds Try.pinned (OpenSpec.ofChange fnExactPackCellsWrong)

/-- 'laws.FnExactMiddleOf': WHATEVER THE INPUT: true; the input reads as it did. -/
def fnExactMiddleOfSpec : ChangeSpec := { name := "fnExactMiddleOf", fn := fun _ => fun
  | [d] => { results := [.lit (.bool true)], args := [d] }
  | _ => none }
def fnExactMiddleOfRow : OpenClaim := { program := "ytcoikcdglcpmcaa", sum := "564cbee3eece7b9acdcc739fd30486324e302457ca2b8829dd5d2d74f480bee5", func := "loop.example/g01318/laws.FnExactMiddleOf", spec := "fnExactMiddleOf", inPlace := ["math.sqrt"], unfollowed := true, recurses := true, apart := false }
def FnExactMiddleOfSaid : Prop := fnExactMiddleOfRow.holds Try.pinned (OpenSpec.ofChange fnExactMiddleOfSpec)

/-- ITS FALSE NEIGHBOUR: 'it returns false'. Refute it at one input. -/
def fnExactMiddleOfWrong : ChangeSpec := { name := "fnExactMiddleOf", fn := fun _ => fun
  | [d] => { results := [.lit (.bool false)], args := [d] }
  | _ => none }
def FnExactMiddleOfWrongFalsely : Prop := fnExactMiddleOfRow.holds Try.pinned (OpenSpec.ofChange fnExactMiddleOfWrong)

/-- 'laws.FnExactStoreShape': WHATEVER THE INPUT: true; the input reads as it did. -/
def fnExactStoreShapeSpec : ChangeSpec := { name := "fnExactStoreShape", fn := fun _ => fun
  | [d] => { results := [.lit (.bool true)], args := [d] }
  | _ => none }
def fnExactStoreShapeRow : OpenClaim := { program := "ytcoikcdglcpmcaa", sum := "564cbee3eece7b9acdcc739fd30486324e302457ca2b8829dd5d2d74f480bee5", func := "loop.example/g01318/laws.FnExactStoreShape", spec := "fnExactStoreShape", apart := false }
def FnExactStoreShapeSaid : Prop := fnExactStoreShapeRow.holds Try.pinned (OpenSpec.ofChange fnExactStoreShapeSpec)

/-- ITS FALSE NEIGHBOUR: 'it returns false'. Refute it at one input. -/
def fnExactStoreShapeWrong : ChangeSpec := { name := "fnExactStoreShape", fn := fun _ => fun
  | [d] => { results := [.lit (.bool false)], args := [d] }
  | _ => none }
def FnExactStoreShapeWrongFalsely : Prop := fnExactStoreShapeRow.holds Try.pinned (OpenSpec.ofChange fnExactStoreShapeWrong)

/-- 'laws.FnExactUnpackCells': WHATEVER THE INPUT: true; the input reads as it did. -/
def fnExactUnpackCellsSpec : ChangeSpec := { name := "fnExactUnpackCells", fn := fun _ => fun
  | [d] => { results := [.lit (.bool true)], args := [d] }
  | _ => none }
def fnExactUnpackCellsRow : OpenClaim := { program := "ytcoikcdglcpmcaa", sum := "564cbee3eece7b9acdcc739fd30486324e302457ca2b8829dd5d2d74f480bee5", func := "loop.example/g01318/laws.FnExactUnpackCells", spec := "fnExactUnpackCells", apart := false }
def FnExactUnpackCellsSaid : Prop := fnExactUnpackCellsRow.holds Try.pinned (OpenSpec.ofChange fnExactUnpackCellsSpec)

/-- ITS FALSE NEIGHBOUR: 'it returns false'. Refute it at one input. -/
def fnExactUnpackCellsWrong : ChangeSpec := { name := "fnExactUnpackCells", fn := fun _ => fun
  | [d] => { results := [.lit (.bool false)], args := [d] }
  | _ => none }
def FnExactUnpackCellsWrongFalsely : Prop := fnExactUnpackCellsRow.holds Try.pinned (OpenSpec.ofChange fnExactUnpackCellsWrong)

/-- 'laws.FnExactEdgeOfField': WHATEVER THE INPUT: true; the input reads as it did. -/
def fnExactEdgeOfFieldSpec : ChangeSpec := { name := "fnExactEdgeOfField", fn := fun _ => fun
  | [d] => { results := [.lit (.bool true)], args := [d] }
  | _ => none }
def fnExactEdgeOfFieldRow : OpenClaim := { program := "ytcoikcdglcpmcaa", sum := "564cbee3eece7b9acdcc739fd30486324e302457ca2b8829dd5d2d74f480bee5", func := "loop.example/g01318/laws.FnExactEdgeOfField", spec := "fnExactEdgeOfField", unfollowed := true, recurses := true, apart := false }
def FnExactEdgeOfFieldSaid : Prop := fnExactEdgeOfFieldRow.holds Try.pinned (OpenSpec.ofChange fnExactEdgeOfFieldSpec)

/-- ITS FALSE NEIGHBOUR: 'it returns false'. Refute it at one input. -/
def fnExactEdgeOfFieldWrong : ChangeSpec := { name := "fnExactEdgeOfField", fn := fun _ => fun
  | [d] => { results := [.lit (.bool false)], args := [d] }
  | _ => none }
def FnExactEdgeOfFieldWrongFalsely : Prop := fnExactEdgeOfFieldRow.holds Try.pinned (OpenSpec.ofChange fnExactEdgeOfFieldWrong)

/- THE SECOND FORM. 'bulk': how many values and letters a reading holds, each counted each time it is reached (what is shared counts as often as it is met; a slice's spare places count too). A statement '..UptoSaid' is the law's where the arguments, and the package variables that the reading takes, are together of bulk at most 1048576: NARROWER than '..Said'. Prove '..Said' where nothing that the law and all that it calls make is longer than what came in: it says more and counts as full. Else prove '..UptoSaid'. A law counts once. -/
mutual
def uptoBulk {H : Type} : DataW H → Nat
  | .lit (.string bytes) => bytes.length + 1
  | .lit _ => 1
  | .nil => 1
  | .ptr d => uptoBulk d + 1
  | .slice elems spare => uptoBulkAll elems + uptoBulkAll spare + 1
  | .agg parts => uptoBulkAll parts + 1
  | .iface _ d => uptoBulk d + 1
  | .map entries => uptoBulkEntries entries + 1
  | .held _ => 1
def uptoBulkAll {H : Type} : List (DataW H) → Nat
  | [] => 0
  | d :: r => uptoBulk d + uptoBulkAll r
def uptoBulkEntries {H : Type} : List (Lit × DataW H) → Nat
  | [] => 0
  | x :: r => uptoBulkEntry x + uptoBulkEntries r
def uptoBulkEntry {H : Type} : Lit × DataW H → Nat
  | (.string bytes, d) => bytes.length + uptoBulk d + 1
  | (_, d) => uptoBulk d + 1
 end
def uptoSmall : (H : Type) → List (DataW H) → Bool := fun _ ds => decide (uptoBulkAll ds ≤ 1048576)
def OpenSpec.upto (s : _root_.Go.ChangeSpec) : _root_.Go.OpenSpec := { _root_.Go.OpenSpec.ofChange s with cond := some uptoSmall }

/-- 'laws.FnExactValidField', WHERE WHAT IT READS IS OF BULK AT MOST 1048576: true; the input reads as it did. -/
def fnExactValidFieldUptoRow : OpenClaim := { program := "ytcoikcdglcpmcaa", sum := "564cbee3eece7b9acdcc739fd30486324e302457ca2b8829dd5d2d74f480bee5", func := "loop.example/g01318/laws.FnExactValidField", spec := "fnExactValidField", apart := false, narrowed := true }
def FnExactValidFieldUptoSaid : Prop := fnExactValidFieldUptoRow.holds Try.pinned (OpenSpec.upto fnExactValidFieldSpec)

/-- 'laws.FnExactSameField', WHERE WHAT IT READS IS OF BULK AT MOST 1048576: true; the input reads as it did. -/
def fnExactSameFieldUptoRow : OpenClaim := { program := "ytcoikcdglcpmcaa", sum := "564cbee3eece7b9acdcc739fd30486324e302457ca2b8829dd5d2d74f480bee5", func := "loop.example/g01318/laws.FnExactSameField", spec := "fnExactSameField", apart := false, narrowed := true }
def FnExactSameFieldUptoSaid : Prop := fnExactSameFieldUptoRow.holds Try.pinned (OpenSpec.upto fnExactSameFieldSpec)

/-- 'laws.FnExactEmptyField', WHERE WHAT IT READS IS OF BULK AT MOST 1048576: true; the input reads as it did. -/
def fnExactEmptyFieldUptoRow : OpenClaim := { program := "ytcoikcdglcpmcaa", sum := "564cbee3eece7b9acdcc739fd30486324e302457ca2b8829dd5d2d74f480bee5", func := "loop.example/g01318/laws.FnExactEmptyField", spec := "fnExactEmptyField", apart := false, narrowed := true }
def FnExactEmptyFieldUptoSaid : Prop := fnExactEmptyFieldUptoRow.holds Try.pinned (OpenSpec.upto fnExactEmptyFieldSpec)

/-- 'laws.FnExactCountCells', WHERE WHAT IT READS IS OF BULK AT MOST 1048576: true; the input reads as it did. -/
def fnExactCountCellsUptoRow : OpenClaim := { program := "ytcoikcdglcpmcaa", sum := "564cbee3eece7b9acdcc739fd30486324e302457ca2b8829dd5d2d74f480bee5", func := "loop.example/g01318/laws.FnExactCountCells", spec := "fnExactCountCells", apart := false, narrowed := true }
def FnExactCountCellsUptoSaid : Prop := fnExactCountCellsUptoRow.holds Try.pinned (OpenSpec.upto fnExactCountCellsSpec)

/-- 'laws.FnExactFlipCells', WHERE WHAT IT READS IS OF BULK AT MOST 1048576: true; the input reads as it did. -/
def fnExactFlipCellsUptoRow : OpenClaim := { program := "ytcoikcdglcpmcaa", sum := "564cbee3eece7b9acdcc739fd30486324e302457ca2b8829dd5d2d74f480bee5", func := "loop.example/g01318/laws.FnExactFlipCells", spec := "fnExactFlipCells", apart := false, narrowed := true }
def FnExactFlipCellsUptoSaid : Prop := fnExactFlipCellsUptoRow.holds Try.pinned (OpenSpec.upto fnExactFlipCellsSpec)

/-- 'laws.FnExactDrawnField', WHERE WHAT IT READS IS OF BULK AT MOST 1048576: true; the input reads as it did. -/
def fnExactDrawnFieldUptoRow : OpenClaim := { program := "ytcoikcdglcpmcaa", sum := "564cbee3eece7b9acdcc739fd30486324e302457ca2b8829dd5d2d74f480bee5", func := "loop.example/g01318/laws.FnExactDrawnField", spec := "fnExactDrawnField", apart := false, narrowed := true }
def FnExactDrawnFieldUptoSaid : Prop := fnExactDrawnFieldUptoRow.holds Try.pinned (OpenSpec.upto fnExactDrawnFieldSpec)

/-- 'laws.FnExactValidShape', WHERE WHAT IT READS IS OF BULK AT MOST 1048576: true; the input reads as it did. -/
def fnExactValidShapeUptoRow : OpenClaim := { program := "ytcoikcdglcpmcaa", sum := "564cbee3eece7b9acdcc739fd30486324e302457ca2b8829dd5d2d74f480bee5", func := "loop.example/g01318/laws.FnExactValidShape", spec := "fnExactValidShape", apart := false, narrowed := true }
def FnExactValidShapeUptoSaid : Prop := fnExactValidShapeUptoRow.holds Try.pinned (OpenSpec.upto fnExactValidShapeSpec)

/-- 'laws.FnExactPackCells', WHERE WHAT IT READS IS OF BULK AT MOST 1048576: true; the input reads as it did. -/
def fnExactPackCellsUptoRow : OpenClaim := { program := "ytcoikcdglcpmcaa", sum := "564cbee3eece7b9acdcc739fd30486324e302457ca2b8829dd5d2d74f480bee5", func := "loop.example/g01318/laws.FnExactPackCells", spec := "fnExactPackCells", apart := false, narrowed := true }
def FnExactPackCellsUptoSaid : Prop := fnExactPackCellsUptoRow.holds Try.pinned (OpenSpec.upto fnExactPackCellsSpec)

/-- 'laws.FnExactMiddleOf', WHERE WHAT IT READS IS OF BULK AT MOST 1048576: true; the input reads as it did. -/
def fnExactMiddleOfUptoRow : OpenClaim := { program := "ytcoikcdglcpmcaa", sum := "564cbee3eece7b9acdcc739fd30486324e302457ca2b8829dd5d2d74f480bee5", func := "loop.example/g01318/laws.FnExactMiddleOf", spec := "fnExactMiddleOf", inPlace := ["math.sqrt"], unfollowed := true, recurses := true, apart := false, narrowed := true }
def FnExactMiddleOfUptoSaid : Prop := fnExactMiddleOfUptoRow.holds Try.pinned (OpenSpec.upto fnExactMiddleOfSpec)

/-- 'laws.FnExactStoreShape', WHERE WHAT IT READS IS OF BULK AT MOST 1048576: true; the input reads as it did. -/
def fnExactStoreShapeUptoRow : OpenClaim := { program := "ytcoikcdglcpmcaa", sum := "564cbee3eece7b9acdcc739fd30486324e302457ca2b8829dd5d2d74f480bee5", func := "loop.example/g01318/laws.FnExactStoreShape", spec := "fnExactStoreShape", apart := false, narrowed := true }
def FnExactStoreShapeUptoSaid : Prop := fnExactStoreShapeUptoRow.holds Try.pinned (OpenSpec.upto fnExactStoreShapeSpec)

/-- 'laws.FnExactUnpackCells', WHERE WHAT IT READS IS OF BULK AT MOST 1048576: true; the input reads as it did. -/
def fnExactUnpackCellsUptoRow : OpenClaim := { program := "ytcoikcdglcpmcaa", sum := "564cbee3eece7b9acdcc739fd30486324e302457ca2b8829dd5d2d74f480bee5", func := "loop.example/g01318/laws.FnExactUnpackCells", spec := "fnExactUnpackCells", apart := false, narrowed := true }
def FnExactUnpackCellsUptoSaid : Prop := fnExactUnpackCellsUptoRow.holds Try.pinned (OpenSpec.upto fnExactUnpackCellsSpec)

/-- 'laws.FnExactEdgeOfField', WHERE WHAT IT READS IS OF BULK AT MOST 1048576: true; the input reads as it did. -/
def fnExactEdgeOfFieldUptoRow : OpenClaim := { program := "ytcoikcdglcpmcaa", sum := "564cbee3eece7b9acdcc739fd30486324e302457ca2b8829dd5d2d74f480bee5", func := "loop.example/g01318/laws.FnExactEdgeOfField", spec := "fnExactEdgeOfField", unfollowed := true, recurses := true, apart := false, narrowed := true }
def FnExactEdgeOfFieldUptoSaid : Prop := fnExactEdgeOfFieldUptoRow.holds Try.pinned (OpenSpec.upto fnExactEdgeOfFieldSpec)

end Rows
end Go.Proofs.Ytcoikcdglcpmcaa
