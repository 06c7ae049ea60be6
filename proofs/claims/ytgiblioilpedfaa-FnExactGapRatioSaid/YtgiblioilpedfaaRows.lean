/-
  No cell of these rows narrows 'for every input' (looked for: loops, veiled, ifaces, maps, wideKeys, modest, calm, conditions, laid).
  DERIVED. THE GIVEN ROWS OF THIS SEAT. 12 by the template 'for every input the law returns true; each argument reads behind the call as it read before'; 0 by the template 'total and deterministic' (their statements: YtgiblioilpedfaaTotals.lean).
  GIVEN WITH THE SEED: the statements are not yours to turn. If you find one false, say at which input.
  Laid BY PROGRAM, IN A SANDBOX (cutbox-rows.mjs): the forced cells as the released guide's own fill.sh prints them over the translation feeed83493d37a4b… (all of the seat's roots in one cut). By AI agents, Wed Nov 11 2026. No macro, syntax, notation, axiom, sorry.
-/
import Derived.Test.YtgiblioilpedfaaChecked
import GoSem.Claim
import GoSem.ClaimJoined
import GoSem.ClaimMapViews
import Derived.JoinedTies
import Derived.KernelRfl
namespace Go.Proofs.Ytgiblioilpedfaa
/- THE CELL 'sum', in the pinned program and in every row, IS THE sha256 OF THE DUMP (.gsa) THAT YtgiblioilpedfaaProg.lean LOADS. Nothing in Lean hashes anything: it is a label: what it is worth is what the hold of that sum in a sandbox is worth. -/
noncomputable def Try.pinned : Pinned := { name := "ytgiblioilpedfaa", sum := "feeed83493d37a4bcd63f07470a2573f00fdbc91496b633d83f44e8a7a1969b2", checked := Try.checked }
namespace Rows
def none {H : Type} : Left H := { results := [], args := [] }

/-- 'laws.FnExactIslandsOver': WHATEVER THE INPUT: true; the input reads as it did. -/
def fnExactIslandsOverSpec : ChangeSpec := { name := "fnExactIslandsOver", fn := fun _ => fun
  | [d1, d2] => { results := [.lit (.bool true)], args := [d1, d2] }
  | _ => none }
def fnExactIslandsOverRow : OpenClaim := { program := "ytgiblioilpedfaa", sum := "feeed83493d37a4bcd63f07470a2573f00fdbc91496b633d83f44e8a7a1969b2", func := "loop.example/g01318/laws.FnExactIslandsOver", spec := "fnExactIslandsOver", inPlace := ["math.Float64bits", "math.Float64frombits"], unfollowed := true, recurses := true, apart := false }
def FnExactIslandsOverSaid : Prop := fnExactIslandsOverRow.holds Try.pinned (OpenSpec.ofChange fnExactIslandsOverSpec)

/-- ITS FALSE NEIGHBOUR: 'it returns false'. Refute it at one input. -/
def fnExactIslandsOverWrong : ChangeSpec := { name := "fnExactIslandsOver", fn := fun _ => fun
  | [d1, d2] => { results := [.lit (.bool false)], args := [d1, d2] }
  | _ => none }
def FnExactIslandsOverWrongFalsely : Prop := fnExactIslandsOverRow.holds Try.pinned (OpenSpec.ofChange fnExactIslandsOverWrong)

/-- 'laws.FnExactGroupsOf': WHATEVER THE INPUT: true; the input reads as it did. -/
def fnExactGroupsOfSpec : ChangeSpec := { name := "fnExactGroupsOf", fn := fun _ => fun
  | [d] => { results := [.lit (.bool true)], args := [d] }
  | _ => none }
def fnExactGroupsOfRow : OpenClaim := { program := "ytgiblioilpedfaa", sum := "feeed83493d37a4bcd63f07470a2573f00fdbc91496b633d83f44e8a7a1969b2", func := "loop.example/g01318/laws.FnExactGroupsOf", spec := "fnExactGroupsOf", unfollowed := true, recurses := true, apart := false }
def FnExactGroupsOfSaid : Prop := fnExactGroupsOfRow.holds Try.pinned (OpenSpec.ofChange fnExactGroupsOfSpec)

/-- ITS FALSE NEIGHBOUR: 'it returns false'. Refute it at one input. -/
def fnExactGroupsOfWrong : ChangeSpec := { name := "fnExactGroupsOf", fn := fun _ => fun
  | [d] => { results := [.lit (.bool false)], args := [d] }
  | _ => none }
def FnExactGroupsOfWrongFalsely : Prop := fnExactGroupsOfRow.holds Try.pinned (OpenSpec.ofChange fnExactGroupsOfWrong)

/-- 'laws.FnExactSpansOf': WHATEVER THE INPUT: true; the input reads as it did. -/
def fnExactSpansOfSpec : ChangeSpec := { name := "fnExactSpansOf", fn := fun _ => fun
  | [d] => { results := [.lit (.bool true)], args := [d] }
  | _ => none }
def fnExactSpansOfRow : OpenClaim := { program := "ytgiblioilpedfaa", sum := "feeed83493d37a4bcd63f07470a2573f00fdbc91496b633d83f44e8a7a1969b2", func := "loop.example/g01318/laws.FnExactSpansOf", spec := "fnExactSpansOf", unfollowed := true, recurses := true, apart := false }
def FnExactSpansOfSaid : Prop := fnExactSpansOfRow.holds Try.pinned (OpenSpec.ofChange fnExactSpansOfSpec)

/-- ITS FALSE NEIGHBOUR: 'it returns false'. Refute it at one input. -/
def fnExactSpansOfWrong : ChangeSpec := { name := "fnExactSpansOf", fn := fun _ => fun
  | [d] => { results := [.lit (.bool false)], args := [d] }
  | _ => none }
def FnExactSpansOfWrongFalsely : Prop := fnExactSpansOfRow.holds Try.pinned (OpenSpec.ofChange fnExactSpansOfWrong)

/-- 'laws.FnExactHolesOf': WHATEVER THE INPUT: true; the input reads as it did. -/
def fnExactHolesOfSpec : ChangeSpec := { name := "fnExactHolesOf", fn := fun _ => fun
  | [d] => { results := [.lit (.bool true)], args := [d] }
  | _ => none }
def fnExactHolesOfRow : OpenClaim := { program := "ytgiblioilpedfaa", sum := "feeed83493d37a4bcd63f07470a2573f00fdbc91496b633d83f44e8a7a1969b2", func := "loop.example/g01318/laws.FnExactHolesOf", spec := "fnExactHolesOf", unfollowed := true, recurses := true, apart := false }
def FnExactHolesOfSaid : Prop := fnExactHolesOfRow.holds Try.pinned (OpenSpec.ofChange fnExactHolesOfSpec)

/-- ITS FALSE NEIGHBOUR: 'it returns false'. Refute it at one input. -/
def fnExactHolesOfWrong : ChangeSpec := { name := "fnExactHolesOf", fn := fun _ => fun
  | [d] => { results := [.lit (.bool false)], args := [d] }
  | _ => none }
def FnExactHolesOfWrongFalsely : Prop := fnExactHolesOfRow.holds Try.pinned (OpenSpec.ofChange fnExactHolesOfWrong)

/-- 'laws.FnExactMiddleOf': WHATEVER THE INPUT: true; the input reads as it did. -/
def fnExactMiddleOfSpec : ChangeSpec := { name := "fnExactMiddleOf", fn := fun _ => fun
  | [d] => { results := [.lit (.bool true)], args := [d] }
  | _ => none }
def fnExactMiddleOfRow : OpenClaim := { program := "ytgiblioilpedfaa", sum := "feeed83493d37a4bcd63f07470a2573f00fdbc91496b633d83f44e8a7a1969b2", func := "loop.example/g01318/laws.FnExactMiddleOf", spec := "fnExactMiddleOf", inPlace := ["math.sqrt"], unfollowed := true, recurses := true, apart := false }
def FnExactMiddleOfSaid : Prop := fnExactMiddleOfRow.holds Try.pinned (OpenSpec.ofChange fnExactMiddleOfSpec)

/-- ITS FALSE NEIGHBOUR: 'it returns false'. Refute it at one input. -/
def fnExactMiddleOfWrong : ChangeSpec := { name := "fnExactMiddleOf", fn := fun _ => fun
  | [d] => { results := [.lit (.bool false)], args := [d] }
  | _ => none }
def FnExactMiddleOfWrongFalsely : Prop := fnExactMiddleOfRow.holds Try.pinned (OpenSpec.ofChange fnExactMiddleOfWrong)

/-- 'laws.FnExactSameShapes': WHATEVER THE INPUT: true; the input reads as it did. -/
def fnExactSameShapesSpec : ChangeSpec := { name := "fnExactSameShapes", fn := fun _ => fun
  | [d1, d2] => { results := [.lit (.bool true)], args := [d1, d2] }
  | _ => none }
def fnExactSameShapesRow : OpenClaim := { program := "ytgiblioilpedfaa", sum := "feeed83493d37a4bcd63f07470a2573f00fdbc91496b633d83f44e8a7a1969b2", func := "loop.example/g01318/laws.FnExactSameShapes", spec := "fnExactSameShapes", unfollowed := true, recurses := true, apart := false }
def FnExactSameShapesSaid : Prop := fnExactSameShapesRow.holds Try.pinned (OpenSpec.ofChange fnExactSameShapesSpec)

/-- ITS FALSE NEIGHBOUR: 'it returns false'. Refute it at one input. -/
def fnExactSameShapesWrong : ChangeSpec := { name := "fnExactSameShapes", fn := fun _ => fun
  | [d1, d2] => { results := [.lit (.bool false)], args := [d1, d2] }
  | _ => none }
def FnExactSameShapesWrongFalsely : Prop := fnExactSameShapesRow.holds Try.pinned (OpenSpec.ofChange fnExactSameShapesWrong)

/-- 'laws.FnExactGrowEdge': WHATEVER THE INPUT: true; the input reads as it did. -/
def fnExactGrowEdgeSpec : ChangeSpec := { name := "fnExactGrowEdge", fn := fun _ => fun
  | [d1, d2, d3] => { results := [.lit (.bool true)], args := [d1, d2, d3] }
  | _ => none }
def fnExactGrowEdgeRow : OpenClaim := { program := "ytgiblioilpedfaa", sum := "feeed83493d37a4bcd63f07470a2573f00fdbc91496b633d83f44e8a7a1969b2", func := "loop.example/g01318/laws.FnExactGrowEdge", spec := "fnExactGrowEdge", unfollowed := true, recurses := true, apart := false }
def FnExactGrowEdgeSaid : Prop := fnExactGrowEdgeRow.holds Try.pinned (OpenSpec.ofChange fnExactGrowEdgeSpec)

/-- ITS FALSE NEIGHBOUR: 'it returns false'. Refute it at one input. -/
def fnExactGrowEdgeWrong : ChangeSpec := { name := "fnExactGrowEdge", fn := fun _ => fun
  | [d1, d2, d3] => { results := [.lit (.bool false)], args := [d1, d2, d3] }
  | _ => none }
def FnExactGrowEdgeWrongFalsely : Prop := fnExactGrowEdgeRow.holds Try.pinned (OpenSpec.ofChange fnExactGrowEdgeWrong)

/-- 'laws.FnExactBurnTimes': WHATEVER THE INPUT: true; the input reads as it did. -/
def fnExactBurnTimesSpec : ChangeSpec := { name := "fnExactBurnTimes", fn := fun _ => fun
  | [d] => { results := [.lit (.bool true)], args := [d] }
  | _ => none }
def fnExactBurnTimesRow : OpenClaim := { program := "ytgiblioilpedfaa", sum := "feeed83493d37a4bcd63f07470a2573f00fdbc91496b633d83f44e8a7a1969b2", func := "loop.example/g01318/laws.FnExactBurnTimes", spec := "fnExactBurnTimes", unfollowed := true, recurses := true, apart := false }
def FnExactBurnTimesSaid : Prop := fnExactBurnTimesRow.holds Try.pinned (OpenSpec.ofChange fnExactBurnTimesSpec)

/-- ITS FALSE NEIGHBOUR: 'it returns false'. Refute it at one input. -/
def fnExactBurnTimesWrong : ChangeSpec := { name := "fnExactBurnTimes", fn := fun _ => fun
  | [d] => { results := [.lit (.bool false)], args := [d] }
  | _ => none }
def FnExactBurnTimesWrongFalsely : Prop := fnExactBurnTimesRow.holds Try.pinned (OpenSpec.ofChange fnExactBurnTimesWrong)

/-- 'laws.FnExactFirstPath': WHATEVER THE INPUT: true; the input reads as it did. -/
def fnExactFirstPathSpec : ChangeSpec := { name := "fnExactFirstPath", fn := fun _ => fun
  | [d] => { results := [.lit (.bool true)], args := [d] }
  | _ => none }
def fnExactFirstPathRow : OpenClaim := { program := "ytgiblioilpedfaa", sum := "feeed83493d37a4bcd63f07470a2573f00fdbc91496b633d83f44e8a7a1969b2", func := "loop.example/g01318/laws.FnExactFirstPath", spec := "fnExactFirstPath", unfollowed := true, recurses := true, apart := false }
def FnExactFirstPathSaid : Prop := fnExactFirstPathRow.holds Try.pinned (OpenSpec.ofChange fnExactFirstPathSpec)

/-- ITS FALSE NEIGHBOUR: 'it returns false'. Refute it at one input. -/
def fnExactFirstPathWrong : ChangeSpec := { name := "fnExactFirstPath", fn := fun _ => fun
  | [d] => { results := [.lit (.bool false)], args := [d] }
  | _ => none }
def FnExactFirstPathWrongFalsely : Prop := fnExactFirstPathRow.holds Try.pinned (OpenSpec.ofChange fnExactFirstPathWrong)

/-- 'laws.FnExactInvadeFrom': WHATEVER THE INPUT: true; the input reads as it did. -/
def fnExactInvadeFromSpec : ChangeSpec := { name := "fnExactInvadeFrom", fn := fun _ => fun
  | [d1, d2, d3, d4, d5] => { results := [.lit (.bool true)], args := [d1, d2, d3, d4, d5] }
  | _ => none }
def fnExactInvadeFromRow : OpenClaim := { program := "ytgiblioilpedfaa", sum := "feeed83493d37a4bcd63f07470a2573f00fdbc91496b633d83f44e8a7a1969b2", func := "loop.example/g01318/laws.FnExactInvadeFrom", spec := "fnExactInvadeFrom", inPlace := ["math.Float64bits", "math.Float64frombits"], unfollowed := true, recurses := true, apart := false }
def FnExactInvadeFromSaid : Prop := fnExactInvadeFromRow.holds Try.pinned (OpenSpec.ofChange fnExactInvadeFromSpec)

/-- ITS FALSE NEIGHBOUR: 'it returns false'. Refute it at one input. -/
def fnExactInvadeFromWrong : ChangeSpec := { name := "fnExactInvadeFrom", fn := fun _ => fun
  | [d1, d2, d3, d4, d5] => { results := [.lit (.bool false)], args := [d1, d2, d3, d4, d5] }
  | _ => none }
def FnExactInvadeFromWrongFalsely : Prop := fnExactInvadeFromRow.holds Try.pinned (OpenSpec.ofChange fnExactInvadeFromWrong)

/-- 'laws.FnExactSpectrumLine': WHATEVER THE INPUT: true; the input reads as it did. -/
def fnExactSpectrumLineSpec : ChangeSpec := { name := "fnExactSpectrumLine", fn := fun _ => fun
  | [d1, d2, d3] => { results := [.lit (.bool true)], args := [d1, d2, d3] }
  | _ => none }
def fnExactSpectrumLineRow : OpenClaim := { program := "ytgiblioilpedfaa", sum := "feeed83493d37a4bcd63f07470a2573f00fdbc91496b633d83f44e8a7a1969b2", func := "loop.example/g01318/laws.FnExactSpectrumLine", spec := "fnExactSpectrumLine", inPlace := ["math.Float64frombits", "math.Float64bits", "math.Float32frombits"], apart := false }
def FnExactSpectrumLineSaid : Prop := fnExactSpectrumLineRow.holds Try.pinned (OpenSpec.ofChange fnExactSpectrumLineSpec)

/-- ITS FALSE NEIGHBOUR: 'it returns false'. Refute it at one input. -/
def fnExactSpectrumLineWrong : ChangeSpec := { name := "fnExactSpectrumLine", fn := fun _ => fun
  | [d1, d2, d3] => { results := [.lit (.bool false)], args := [d1, d2, d3] }
  | _ => none }
def FnExactSpectrumLineWrongFalsely : Prop := fnExactSpectrumLineRow.holds Try.pinned (OpenSpec.ofChange fnExactSpectrumLineWrong)

/-- 'laws.FnExactGapRatio': WHATEVER THE INPUT: true; the input reads as it did. -/
def fnExactGapRatioSpec : ChangeSpec := { name := "fnExactGapRatio", fn := fun _ => fun
  | [d] => { results := [.lit (.bool true)], args := [d] }
  | _ => none }
def fnExactGapRatioRow : OpenClaim := { program := "ytgiblioilpedfaa", sum := "feeed83493d37a4bcd63f07470a2573f00fdbc91496b633d83f44e8a7a1969b2", func := "loop.example/g01318/laws.FnExactGapRatio", spec := "fnExactGapRatio", apart := false }
def FnExactGapRatioSaid : Prop := fnExactGapRatioRow.holds Try.pinned (OpenSpec.ofChange fnExactGapRatioSpec)

/-- ITS FALSE NEIGHBOUR: 'it returns false'. Refute it at one input. -/
def fnExactGapRatioWrong : ChangeSpec := { name := "fnExactGapRatio", fn := fun _ => fun
  | [d] => { results := [.lit (.bool false)], args := [d] }
  | _ => none }
def FnExactGapRatioWrongFalsely : Prop := fnExactGapRatioRow.holds Try.pinned (OpenSpec.ofChange fnExactGapRatioWrong)

/- THE SECOND FORM. 'bulk': how many values and letters a reading holds, each counted each time it is reached (what is shared counts as often as it is met; a slice's spare places count too). A statement '..UptoSaid' is the law's where the arguments, and the package variables that the reading takes, are together of bulk at most 1048576: NARROWER than '..Said'. Prove '..Said' where nothing that the law and all that it calls make is longer than what came in: it says more and counts as full. Else prove '..UptoSaid'. A law counts once. -/
mutual
def uptoBulk {H : Type} : DataW H → Nat
  | .lit (.string bytes) => bytes.length + 1
  | .lit _ => 1
  | .nil => 1
  | .ptr d => uptoBulk d + 1
  | .slice elems spare => uptoBulkAll elems + uptoBulkAll spare + 1
  | .agg parts => uptoBulkAll parts + 1
  | .iface _ d => uptoBulk d + 1
  | .map entries => uptoBulkEntries entries + 1
  | .held _ => 1
def uptoBulkAll {H : Type} : List (DataW H) → Nat
  | [] => 0
  | d :: r => uptoBulk d + uptoBulkAll r
def uptoBulkEntries {H : Type} : List (Lit × DataW H) → Nat
  | [] => 0
  | x :: r => uptoBulkEntry x + uptoBulkEntries r
def uptoBulkEntry {H : Type} : Lit × DataW H → Nat
  | (.string bytes, d) => bytes.length + uptoBulk d + 1
  | (_, d) => uptoBulk d + 1
 end
def uptoSmall : (H : Type) → List (DataW H) → Bool := fun _ ds => decide (uptoBulkAll ds ≤ 1048576)
def OpenSpec.upto (s : _root_.Go.ChangeSpec) : _root_.Go.OpenSpec := { _root_.Go.OpenSpec.ofChange s with cond := some uptoSmall }

/-- 'laws.FnExactIslandsOver', WHERE WHAT IT READS IS OF BULK AT MOST 1048576: true; the input reads as it did. -/
def fnExactIslandsOverUptoRow : OpenClaim := { program := "ytgiblioilpedfaa", sum := "feeed83493d37a4bcd63f07470a2573f00fdbc91496b633d83f44e8a7a1969b2", func := "loop.example/g01318/laws.FnExactIslandsOver", spec := "fnExactIslandsOver", inPlace := ["math.Float64bits", "math.Float64frombits"], unfollowed := true, recurses := true, apart := false, narrowed := true }
def FnExactIslandsOverUptoSaid : Prop := fnExactIslandsOverUptoRow.holds Try.pinned (OpenSpec.upto fnExactIslandsOverSpec)

/-- 'laws.FnExactGroupsOf', WHERE WHAT IT READS IS OF BULK AT MOST 1048576: true; the input reads as it did. -/
def fnExactGroupsOfUptoRow : OpenClaim := { program := "ytgiblioilpedfaa", sum := "feeed83493d37a4bcd63f07470a2573f00fdbc91496b633d83f44e8a7a1969b2", func := "loop.example/g01318/laws.FnExactGroupsOf", spec := "fnExactGroupsOf", unfollowed := true, recurses := true, apart := false, narrowed := true }
def FnExactGroupsOfUptoSaid : Prop := fnExactGroupsOfUptoRow.holds Try.pinned (OpenSpec.upto fnExactGroupsOfSpec)

/-- 'laws.FnExactSpansOf', WHERE WHAT IT READS IS OF BULK AT MOST 1048576: true; the input reads as it did. -/
def fnExactSpansOfUptoRow : OpenClaim := { program := "ytgiblioilpedfaa", sum := "feeed83493d37a4bcd63f07470a2573f00fdbc91496b633d83f44e8a7a1969b2", func := "loop.example/g01318/laws.FnExactSpansOf", spec := "fnExactSpansOf", unfollowed := true, recurses := true, apart := false, narrowed := true }
def FnExactSpansOfUptoSaid : Prop := fnExactSpansOfUptoRow.holds Try.pinned (OpenSpec.upto fnExactSpansOfSpec)

/-- 'laws.FnExactHolesOf', WHERE WHAT IT READS IS OF BULK AT MOST 1048576: true; the input reads as it did. -/
def fnExactHolesOfUptoRow : OpenClaim := { program := "ytgiblioilpedfaa", sum := "feeed83493d37a4bcd63f07470a2573f00fdbc91496b633d83f44e8a7a1969b2", func := "loop.example/g01318/laws.FnExactHolesOf", spec := "fnExactHolesOf", unfollowed := true, recurses := true, apart := false, narrowed := true }
def FnExactHolesOfUptoSaid : Prop := fnExactHolesOfUptoRow.holds Try.pinned (OpenSpec.upto fnExactHolesOfSpec)

/-- 'laws.FnExactMiddleOf', WHERE WHAT IT READS IS OF BULK AT MOST 1048576: true; the input reads as it did. -/
def fnExactMiddleOfUptoRow : OpenClaim := { program := "ytgiblioilpedfaa", sum := "feeed83493d37a4bcd63f07470a2573f00fdbc91496b633d83f44e8a7a1969b2", func := "loop.example/g01318/laws.FnExactMiddleOf", spec := "fnExactMiddleOf", inPlace := ["math.sqrt"], unfollowed := true, recurses := true, apart := false, narrowed := true }
def FnExactMiddleOfUptoSaid : Prop := fnExactMiddleOfUptoRow.holds Try.pinned (OpenSpec.upto fnExactMiddleOfSpec)

/-- 'laws.FnExactSameShapes', WHERE WHAT IT READS IS OF BULK AT MOST 1048576: true; the input reads as it did. -/
def fnExactSameShapesUptoRow : OpenClaim := { program := "ytgiblioilpedfaa", sum := "feeed83493d37a4bcd63f07470a2573f00fdbc91496b633d83f44e8a7a1969b2", func := "loop.example/g01318/laws.FnExactSameShapes", spec := "fnExactSameShapes", unfollowed := true, recurses := true, apart := false, narrowed := true }
def FnExactSameShapesUptoSaid : Prop := fnExactSameShapesUptoRow.holds Try.pinned (OpenSpec.upto fnExactSameShapesSpec)

/-- 'laws.FnExactGrowEdge', WHERE WHAT IT READS IS OF BULK AT MOST 1048576: true; the input reads as it did. -/
def fnExactGrowEdgeUptoRow : OpenClaim := { program := "ytgiblioilpedfaa", sum := "feeed83493d37a4bcd63f07470a2573f00fdbc91496b633d83f44e8a7a1969b2", func := "loop.example/g01318/laws.FnExactGrowEdge", spec := "fnExactGrowEdge", unfollowed := true, recurses := true, apart := false, narrowed := true }
def FnExactGrowEdgeUptoSaid : Prop := fnExactGrowEdgeUptoRow.holds Try.pinned (OpenSpec.upto fnExactGrowEdgeSpec)

/-- 'laws.FnExactBurnTimes', WHERE WHAT IT READS IS OF BULK AT MOST 1048576: true; the input reads as it did. -/
def fnExactBurnTimesUptoRow : OpenClaim := { program := "ytgiblioilpedfaa", sum := "feeed83493d37a4bcd63f07470a2573f00fdbc91496b633d83f44e8a7a1969b2", func := "loop.example/g01318/laws.FnExactBurnTimes", spec := "fnExactBurnTimes", unfollowed := true, recurses := true, apart := false, narrowed := true }
def FnExactBurnTimesUptoSaid : Prop := fnExactBurnTimesUptoRow.holds Try.pinned (OpenSpec.upto fnExactBurnTimesSpec)

/-- 'laws.FnExactFirstPath', WHERE WHAT IT READS IS OF BULK AT MOST 1048576: true; the input reads as it did. -/
def fnExactFirstPathUptoRow : OpenClaim := { program := "ytgiblioilpedfaa", sum := "feeed83493d37a4bcd63f07470a2573f00fdbc91496b633d83f44e8a7a1969b2", func := "loop.example/g01318/laws.FnExactFirstPath", spec := "fnExactFirstPath", unfollowed := true, recurses := true, apart := false, narrowed := true }
def FnExactFirstPathUptoSaid : Prop := fnExactFirstPathUptoRow.holds Try.pinned (OpenSpec.upto fnExactFirstPathSpec)

/-- 'laws.FnExactInvadeFrom', WHERE WHAT IT READS IS OF BULK AT MOST 1048576: true; the input reads as it did. -/
def fnExactInvadeFromUptoRow : OpenClaim := { program := "ytgiblioilpedfaa", sum := "feeed83493d37a4bcd63f07470a2573f00fdbc91496b633d83f44e8a7a1969b2", func := "loop.example/g01318/laws.FnExactInvadeFrom", spec := "fnExactInvadeFrom", inPlace := ["math.Float64bits", "math.Float64frombits"], unfollowed := true, recurses := true, apart := false, narrowed := true }
def FnExactInvadeFromUptoSaid : Prop := fnExactInvadeFromUptoRow.holds Try.pinned (OpenSpec.upto fnExactInvadeFromSpec)

/-- 'laws.FnExactSpectrumLine', WHERE WHAT IT READS IS OF BULK AT MOST 1048576: true; the input reads as it did. -/
def fnExactSpectrumLineUptoRow : OpenClaim := { program := "ytgiblioilpedfaa", sum := "feeed83493d37a4bcd63f07470a2573f00fdbc91496b633d83f44e8a7a1969b2", func := "loop.example/g01318/laws.FnExactSpectrumLine", spec := "fnExactSpectrumLine", inPlace := ["math.Float64frombits", "math.Float64bits", "math.Float32frombits"], apart := false, narrowed := true }
def FnExactSpectrumLineUptoSaid : Prop := fnExactSpectrumLineUptoRow.holds Try.pinned (OpenSpec.upto fnExactSpectrumLineSpec)

/-- 'laws.FnExactGapRatio', WHERE WHAT IT READS IS OF BULK AT MOST 1048576: true; the input reads as it did. -/
def fnExactGapRatioUptoRow : OpenClaim := { program := "ytgiblioilpedfaa", sum := "feeed83493d37a4bcd63f07470a2573f00fdbc91496b633d83f44e8a7a1969b2", func := "loop.example/g01318/laws.FnExactGapRatio", spec := "fnExactGapRatio", apart := false, narrowed := true }
def FnExactGapRatioUptoSaid : Prop := fnExactGapRatioUptoRow.holds Try.pinned (OpenSpec.upto fnExactGapRatioSpec)

end Rows
end Go.Proofs.Ytgiblioilpedfaa
