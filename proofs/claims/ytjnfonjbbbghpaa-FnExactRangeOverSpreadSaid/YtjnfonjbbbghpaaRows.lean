/-
  No cell of these rows narrows 'for every input' (looked for: loops, veiled, ifaces, maps, wideKeys, modest, calm, conditions, laid).
  DERIVED. THE GIVEN ROWS OF THIS SEAT. 12 by the template 'for every input the law returns true; each argument reads behind the call as it read before'; 0 by the template 'total and deterministic' (their statements: YtjnfonjbbbghpaaTotals.lean).
  GIVEN WITH THE SEED: the statements are not yours to turn. If you find one false, say at which input.
  Laid BY PROGRAM, IN A SANDBOX (cutbox-rows.mjs): the forced cells as the released guide's own fill.sh prints them over the translation ef03146ab084b907… (all of the seat's roots in one cut). By AI agents, Wed Nov 11 2026. No macro, syntax, notation, axiom, sorry.
-/
import Derived.Test.YtjnfonjbbbghpaaChecked
import GoSem.Claim
import GoSem.ClaimJoined
import GoSem.ClaimMapViews
import Derived.JoinedTies
import Derived.KernelRfl
namespace Go.Proofs.Ytjnfonjbbbghpaa
/- THE CELL 'sum', in the pinned program and in every row, IS THE sha256 OF THE DUMP (.gsa) THAT YtjnfonjbbbghpaaProg.lean LOADS. Nothing in Lean hashes anything: it is a label: what it is worth is what the hold of that sum in a sandbox is worth. -/
noncomputable def Try.pinned : Pinned := { name := "ytjnfonjbbbghpaa", sum := "ef03146ab084b9076878cfb1021d98ba5174474024c5090decaeec557de5839b", checked := Try.checked }
namespace Rows
def none {H : Type} : Left H := { results := [], args := [] }

/-- 'laws.FnExactIsList': WHATEVER THE INPUT: true; the input reads as it did. -/
def fnExactIsListSpec : ChangeSpec := { name := "fnExactIsList", fn := fun _ => fun
  | [d] => { results := [.lit (.bool true)], args := [d] }
  | _ => none }
def fnExactIsListRow : OpenClaim := { program := "ytjnfonjbbbghpaa", sum := "ef03146ab084b9076878cfb1021d98ba5174474024c5090decaeec557de5839b", func := "loop.example/g01318/laws.FnExactIsList", spec := "fnExactIsList", inPlace := ["math.Float64bits", "math.Float64frombits"], apart := false }
def FnExactIsListSaid : Prop := fnExactIsListRow.holds Try.pinned (OpenSpec.ofChange fnExactIsListSpec)

/-- ITS FALSE NEIGHBOUR: 'it returns false'. Refute it at one input. -/
def fnExactIsListWrong : ChangeSpec := { name := "fnExactIsList", fn := fun _ => fun
  | [d] => { results := [.lit (.bool false)], args := [d] }
  | _ => none }
def FnExactIsListWrongFalsely : Prop := fnExactIsListRow.holds Try.pinned (OpenSpec.ofChange fnExactIsListWrong)

/-- 'laws.FnExactRangeOfWalk': WHATEVER THE INPUT: true; the input reads as it did. -/
def fnExactRangeOfWalkSpec : ChangeSpec := { name := "fnExactRangeOfWalk", fn := fun _ => fun
  | [d] => { results := [.lit (.bool true)], args := [d] }
  | _ => none }
def fnExactRangeOfWalkRow : OpenClaim := { program := "ytjnfonjbbbghpaa", sum := "ef03146ab084b9076878cfb1021d98ba5174474024c5090decaeec557de5839b", func := "loop.example/g01318/laws.FnExactRangeOfWalk", spec := "fnExactRangeOfWalk", inPlace := ["math.Float64bits", "math.Float64frombits"], apart := false }
def FnExactRangeOfWalkSaid : Prop := fnExactRangeOfWalkRow.holds Try.pinned (OpenSpec.ofChange fnExactRangeOfWalkSpec)

/-- ITS FALSE NEIGHBOUR: 'it returns false'. Refute it at one input. -/
def fnExactRangeOfWalkWrong : ChangeSpec := { name := "fnExactRangeOfWalk", fn := fun _ => fun
  | [d] => { results := [.lit (.bool false)], args := [d] }
  | _ => none }
def FnExactRangeOfWalkWrongFalsely : Prop := fnExactRangeOfWalkRow.holds Try.pinned (OpenSpec.ofChange fnExactRangeOfWalkWrong)

/-- 'laws.FnExactStairsAt': WHATEVER THE INPUT: true; the input reads as it did. -/
def fnExactStairsAtSpec : ChangeSpec := { name := "fnExactStairsAt", fn := fun _ => fun
  | [d1, d2] => { results := [.lit (.bool true)], args := [d1, d2] }
  | _ => none }
def fnExactStairsAtRow : OpenClaim := { program := "ytjnfonjbbbghpaa", sum := "ef03146ab084b9076878cfb1021d98ba5174474024c5090decaeec557de5839b", func := "loop.example/g01318/laws.FnExactStairsAt", spec := "fnExactStairsAt", apart := false }
def FnExactStairsAtSaid : Prop := fnExactStairsAtRow.holds Try.pinned (OpenSpec.ofChange fnExactStairsAtSpec)

/-- ITS FALSE NEIGHBOUR: 'it returns false'. Refute it at one input. -/
def fnExactStairsAtWrong : ChangeSpec := { name := "fnExactStairsAt", fn := fun _ => fun
  | [d1, d2] => { results := [.lit (.bool false)], args := [d1, d2] }
  | _ => none }
def FnExactStairsAtWrongFalsely : Prop := fnExactStairsAtRow.holds Try.pinned (OpenSpec.ofChange fnExactStairsAtWrong)

/-- 'laws.FnExactSlopeOf': WHATEVER THE INPUT: true; the input reads as it did. -/
def fnExactSlopeOfSpec : ChangeSpec := { name := "fnExactSlopeOf", fn := fun _ => fun
  | [d1, d2] => { results := [.lit (.bool true)], args := [d1, d2] }
  | _ => none }
def fnExactSlopeOfRow : OpenClaim := { program := "ytjnfonjbbbghpaa", sum := "ef03146ab084b9076878cfb1021d98ba5174474024c5090decaeec557de5839b", func := "loop.example/g01318/laws.FnExactSlopeOf", spec := "fnExactSlopeOf", inPlace := ["math.Float64bits", "math.Float64frombits"], apart := false }
def FnExactSlopeOfSaid : Prop := fnExactSlopeOfRow.holds Try.pinned (OpenSpec.ofChange fnExactSlopeOfSpec)

/-- ITS FALSE NEIGHBOUR: 'it returns false'. Refute it at one input. -/
def fnExactSlopeOfWrong : ChangeSpec := { name := "fnExactSlopeOf", fn := fun _ => fun
  | [d1, d2] => { results := [.lit (.bool false)], args := [d1, d2] }
  | _ => none }
def FnExactSlopeOfWrongFalsely : Prop := fnExactSlopeOfRow.holds Try.pinned (OpenSpec.ofChange fnExactSlopeOfWrong)

/-- 'laws.FnExactNoiseWalk': WHATEVER THE INPUT: true; the input reads as it did. -/
def fnExactNoiseWalkSpec : ChangeSpec := { name := "fnExactNoiseWalk", fn := fun _ => fun
  | [d1, d2, d3] => { results := [.lit (.bool true)], args := [d1, d2, d3] }
  | _ => none }
def fnExactNoiseWalkRow : OpenClaim := { program := "ytjnfonjbbbghpaa", sum := "ef03146ab084b9076878cfb1021d98ba5174474024c5090decaeec557de5839b", func := "loop.example/g01318/laws.FnExactNoiseWalk", spec := "fnExactNoiseWalk", apart := false }
def FnExactNoiseWalkSaid : Prop := fnExactNoiseWalkRow.holds Try.pinned (OpenSpec.ofChange fnExactNoiseWalkSpec)

/-- ITS FALSE NEIGHBOUR: 'it returns false'. Refute it at one input. -/
def fnExactNoiseWalkWrong : ChangeSpec := { name := "fnExactNoiseWalk", fn := fun _ => fun
  | [d1, d2, d3] => { results := [.lit (.bool false)], args := [d1, d2, d3] }
  | _ => none }
def FnExactNoiseWalkWrongFalsely : Prop := fnExactNoiseWalkRow.holds Try.pinned (OpenSpec.ofChange fnExactNoiseWalkWrong)

/-- 'laws.FnExactSizesOf': WHATEVER THE INPUT: true; the input reads as it did. -/
def fnExactSizesOfSpec : ChangeSpec := { name := "fnExactSizesOf", fn := fun _ => fun
  | [d1, d2, d3] => { results := [.lit (.bool true)], args := [d1, d2, d3] }
  | _ => none }
def fnExactSizesOfRow : OpenClaim := { program := "ytjnfonjbbbghpaa", sum := "ef03146ab084b9076878cfb1021d98ba5174474024c5090decaeec557de5839b", func := "loop.example/g01318/laws.FnExactSizesOf", spec := "fnExactSizesOf", inPlace := ["math.Float64bits", "math.Float64frombits"], apart := false }
def FnExactSizesOfSaid : Prop := fnExactSizesOfRow.holds Try.pinned (OpenSpec.ofChange fnExactSizesOfSpec)

/-- ITS FALSE NEIGHBOUR: 'it returns false'. Refute it at one input. -/
def fnExactSizesOfWrong : ChangeSpec := { name := "fnExactSizesOf", fn := fun _ => fun
  | [d1, d2, d3] => { results := [.lit (.bool false)], args := [d1, d2, d3] }
  | _ => none }
def FnExactSizesOfWrongFalsely : Prop := fnExactSizesOfRow.holds Try.pinned (OpenSpec.ofChange fnExactSizesOfWrong)

/-- 'laws.FnExactLogsOf': WHATEVER THE INPUT: true; the input reads as it did. -/
def fnExactLogsOfSpec : ChangeSpec := { name := "fnExactLogsOf", fn := fun _ => fun
  | [d] => { results := [.lit (.bool true)], args := [d] }
  | _ => none }
def fnExactLogsOfRow : OpenClaim := { program := "ytjnfonjbbbghpaa", sum := "ef03146ab084b9076878cfb1021d98ba5174474024c5090decaeec557de5839b", func := "loop.example/g01318/laws.FnExactLogsOf", spec := "fnExactLogsOf", inPlace := ["math.Float64frombits", "math.Float64bits", "math.Float32frombits"], unfollowed := true, recurses := true, apart := false }
def FnExactLogsOfSaid : Prop := fnExactLogsOfRow.holds Try.pinned (OpenSpec.ofChange fnExactLogsOfSpec)

/-- ITS FALSE NEIGHBOUR: 'it returns false'. Refute it at one input. -/
def fnExactLogsOfWrong : ChangeSpec := { name := "fnExactLogsOf", fn := fun _ => fun
  | [d] => { results := [.lit (.bool false)], args := [d] }
  | _ => none }
def FnExactLogsOfWrongFalsely : Prop := fnExactLogsOfRow.holds Try.pinned (OpenSpec.ofChange fnExactLogsOfWrong)

/-- 'laws.FnExactCantorSet': WHATEVER THE INPUT: true; the input reads as it did. -/
def fnExactCantorSetSpec : ChangeSpec := { name := "fnExactCantorSet", fn := fun _ => fun
  | [d] => { results := [.lit (.bool true)], args := [d] }
  | _ => none }
def fnExactCantorSetRow : OpenClaim := { program := "ytjnfonjbbbghpaa", sum := "ef03146ab084b9076878cfb1021d98ba5174474024c5090decaeec557de5839b", func := "loop.example/g01318/laws.FnExactCantorSet", spec := "fnExactCantorSet", apart := false }
def FnExactCantorSetSaid : Prop := fnExactCantorSetRow.holds Try.pinned (OpenSpec.ofChange fnExactCantorSetSpec)

/-- ITS FALSE NEIGHBOUR: 'it returns false'. Refute it at one input. -/
def fnExactCantorSetWrong : ChangeSpec := { name := "fnExactCantorSet", fn := fun _ => fun
  | [d] => { results := [.lit (.bool false)], args := [d] }
  | _ => none }
def FnExactCantorSetWrongFalsely : Prop := fnExactCantorSetRow.holds Try.pinned (OpenSpec.ofChange fnExactCantorSetWrong)

/-- 'laws.FnExactStepGrowth': WHATEVER THE INPUT: true; the input reads as it did. -/
def fnExactStepGrowthSpec : ChangeSpec := { name := "fnExactStepGrowth", fn := fun _ => fun
  | [d1, d2] => { results := [.lit (.bool true)], args := [d1, d2] }
  | _ => none }
def fnExactStepGrowthRow : OpenClaim := { program := "ytjnfonjbbbghpaa", sum := "ef03146ab084b9076878cfb1021d98ba5174474024c5090decaeec557de5839b", func := "loop.example/g01318/laws.FnExactStepGrowth", spec := "fnExactStepGrowth", inPlace := ["math.Float64bits", "math.Float64frombits"], apart := false }
def FnExactStepGrowthSaid : Prop := fnExactStepGrowthRow.holds Try.pinned (OpenSpec.ofChange fnExactStepGrowthSpec)

/-- ITS FALSE NEIGHBOUR: 'it returns false'. Refute it at one input. -/
def fnExactStepGrowthWrong : ChangeSpec := { name := "fnExactStepGrowth", fn := fun _ => fun
  | [d1, d2] => { results := [.lit (.bool false)], args := [d1, d2] }
  | _ => none }
def FnExactStepGrowthWrongFalsely : Prop := fnExactStepGrowthRow.holds Try.pinned (OpenSpec.ofChange fnExactStepGrowthWrong)

/-- 'laws.FnExactSlopeDoubt': WHATEVER THE INPUT: true; the input reads as it did. -/
def fnExactSlopeDoubtSpec : ChangeSpec := { name := "fnExactSlopeDoubt", fn := fun _ => fun
  | [d1, d2] => { results := [.lit (.bool true)], args := [d1, d2] }
  | _ => none }
def fnExactSlopeDoubtRow : OpenClaim := { program := "ytjnfonjbbbghpaa", sum := "ef03146ab084b9076878cfb1021d98ba5174474024c5090decaeec557de5839b", func := "loop.example/g01318/laws.FnExactSlopeDoubt", spec := "fnExactSlopeDoubt", inPlace := ["math.sqrt", "math.Float64bits", "math.Float64frombits"], apart := false }
def FnExactSlopeDoubtSaid : Prop := fnExactSlopeDoubtRow.holds Try.pinned (OpenSpec.ofChange fnExactSlopeDoubtSpec)

/-- ITS FALSE NEIGHBOUR: 'it returns false'. Refute it at one input. -/
def fnExactSlopeDoubtWrong : ChangeSpec := { name := "fnExactSlopeDoubt", fn := fun _ => fun
  | [d1, d2] => { results := [.lit (.bool false)], args := [d1, d2] }
  | _ => none }
def FnExactSlopeDoubtWrongFalsely : Prop := fnExactSlopeDoubtRow.holds Try.pinned (OpenSpec.ofChange fnExactSlopeDoubtWrong)

/-- 'laws.FnExactRangeOverSpread': WHATEVER THE INPUT: true; the input reads as it did. -/
def fnExactRangeOverSpreadSpec : ChangeSpec := { name := "fnExactRangeOverSpread", fn := fun _ => fun
  | [d] => { results := [.lit (.bool true)], args := [d] }
  | _ => none }
def fnExactRangeOverSpreadRow : OpenClaim := { program := "ytjnfonjbbbghpaa", sum := "ef03146ab084b9076878cfb1021d98ba5174474024c5090decaeec557de5839b", func := "loop.example/g01318/laws.FnExactRangeOverSpread", spec := "fnExactRangeOverSpread", inPlace := ["math.sqrt", "math.Float64bits", "math.Float64frombits"], apart := false }
def FnExactRangeOverSpreadSaid : Prop := fnExactRangeOverSpreadRow.holds Try.pinned (OpenSpec.ofChange fnExactRangeOverSpreadSpec)

/-- ITS FALSE NEIGHBOUR: 'it returns false'. Refute it at one input. -/
def fnExactRangeOverSpreadWrong : ChangeSpec := { name := "fnExactRangeOverSpread", fn := fun _ => fun
  | [d] => { results := [.lit (.bool false)], args := [d] }
  | _ => none }
def FnExactRangeOverSpreadWrongFalsely : Prop := fnExactRangeOverSpreadRow.holds Try.pinned (OpenSpec.ofChange fnExactRangeOverSpreadWrong)

/-- 'laws.FnExactSlopeOfPowers': WHATEVER THE INPUT: true; the input reads as it did. -/
def fnExactSlopeOfPowersSpec : ChangeSpec := { name := "fnExactSlopeOfPowers", fn := fun _ => fun
  | [d] => { results := [.lit (.bool true)], args := [d] }
  | _ => none }
def fnExactSlopeOfPowersRow : OpenClaim := { program := "ytjnfonjbbbghpaa", sum := "ef03146ab084b9076878cfb1021d98ba5174474024c5090decaeec557de5839b", func := "loop.example/g01318/laws.FnExactSlopeOfPowers", spec := "fnExactSlopeOfPowers", inPlace := ["math.Float64frombits", "math.Float64bits", "math.Float32frombits"], apart := false }
def FnExactSlopeOfPowersSaid : Prop := fnExactSlopeOfPowersRow.holds Try.pinned (OpenSpec.ofChange fnExactSlopeOfPowersSpec)

/-- ITS FALSE NEIGHBOUR: 'it returns false'. Refute it at one input. -/
def fnExactSlopeOfPowersWrong : ChangeSpec := { name := "fnExactSlopeOfPowers", fn := fun _ => fun
  | [d] => { results := [.lit (.bool false)], args := [d] }
  | _ => none }
def FnExactSlopeOfPowersWrongFalsely : Prop := fnExactSlopeOfPowersRow.holds Try.pinned (OpenSpec.ofChange fnExactSlopeOfPowersWrong)

/- THE SECOND FORM. 'bulk': how many values and letters a reading holds, each counted each time it is reached (what is shared counts as often as it is met; a slice's spare places count too). A statement '..UptoSaid' is the law's where the arguments, and the package variables that the reading takes, are together of bulk at most 1048576: NARROWER than '..Said'. Prove '..Said' where nothing that the law and all that it calls make is longer than what came in: it says more and counts as full. Else prove '..UptoSaid'. A law counts once. -/
mutual
def uptoBulk {H : Type} : DataW H → Nat
  | .lit (.string bytes) => bytes.length + 1
  | .lit _ => 1
  | .nil => 1
  | .ptr d => uptoBulk d + 1
  | .slice elems spare => uptoBulkAll elems + uptoBulkAll spare + 1
  | .agg parts => uptoBulkAll parts + 1
  | .iface _ d => uptoBulk d + 1
  | .map entries => uptoBulkEntries entries + 1
  | .held _ => 1
def uptoBulkAll {H : Type} : List (DataW H) → Nat
  | [] => 0
  | d :: r => uptoBulk d + uptoBulkAll r
def uptoBulkEntries {H : Type} : List (Lit × DataW H) → Nat
  | [] => 0
  | x :: r => uptoBulkEntry x + uptoBulkEntries r
def uptoBulkEntry {H : Type} : Lit × DataW H → Nat
  | (.string bytes, d) => bytes.length + uptoBulk d + 1
  | (_, d) => uptoBulk d + 1
 end
def uptoSmall : (H : Type) → List (DataW H) → Bool := fun _ ds => decide (uptoBulkAll ds ≤ 1048576)
def OpenSpec.upto (s : _root_.Go.ChangeSpec) : _root_.Go.OpenSpec := { _root_.Go.OpenSpec.ofChange s with cond := some uptoSmall }

/-- 'laws.FnExactIsList', WHERE WHAT IT READS IS OF BULK AT MOST 1048576: true; the input reads as it did. -/
def fnExactIsListUptoRow : OpenClaim := { program := "ytjnfonjbbbghpaa", sum := "ef03146ab084b9076878cfb1021d98ba5174474024c5090decaeec557de5839b", func := "loop.example/g01318/laws.FnExactIsList", spec := "fnExactIsList", inPlace := ["math.Float64bits", "math.Float64frombits"], apart := false, narrowed := true }
def FnExactIsListUptoSaid : Prop := fnExactIsListUptoRow.holds Try.pinned (OpenSpec.upto fnExactIsListSpec)

/-- 'laws.FnExactRangeOfWalk', WHERE WHAT IT READS IS OF BULK AT MOST 1048576: true; the input reads as it did. -/
def fnExactRangeOfWalkUptoRow : OpenClaim := { program := "ytjnfonjbbbghpaa", sum := "ef03146ab084b9076878cfb1021d98ba5174474024c5090decaeec557de5839b", func := "loop.example/g01318/laws.FnExactRangeOfWalk", spec := "fnExactRangeOfWalk", inPlace := ["math.Float64bits", "math.Float64frombits"], apart := false, narrowed := true }
def FnExactRangeOfWalkUptoSaid : Prop := fnExactRangeOfWalkUptoRow.holds Try.pinned (OpenSpec.upto fnExactRangeOfWalkSpec)

/-- 'laws.FnExactStairsAt', WHERE WHAT IT READS IS OF BULK AT MOST 1048576: true; the input reads as it did. -/
def fnExactStairsAtUptoRow : OpenClaim := { program := "ytjnfonjbbbghpaa", sum := "ef03146ab084b9076878cfb1021d98ba5174474024c5090decaeec557de5839b", func := "loop.example/g01318/laws.FnExactStairsAt", spec := "fnExactStairsAt", apart := false, narrowed := true }
def FnExactStairsAtUptoSaid : Prop := fnExactStairsAtUptoRow.holds Try.pinned (OpenSpec.upto fnExactStairsAtSpec)

/-- 'laws.FnExactSlopeOf', WHERE WHAT IT READS IS OF BULK AT MOST 1048576: true; the input reads as it did. -/
def fnExactSlopeOfUptoRow : OpenClaim := { program := "ytjnfonjbbbghpaa", sum := "ef03146ab084b9076878cfb1021d98ba5174474024c5090decaeec557de5839b", func := "loop.example/g01318/laws.FnExactSlopeOf", spec := "fnExactSlopeOf", inPlace := ["math.Float64bits", "math.Float64frombits"], apart := false, narrowed := true }
def FnExactSlopeOfUptoSaid : Prop := fnExactSlopeOfUptoRow.holds Try.pinned (OpenSpec.upto fnExactSlopeOfSpec)

/-- 'laws.FnExactNoiseWalk', WHERE WHAT IT READS IS OF BULK AT MOST 1048576: true; the input reads as it did. -/
def fnExactNoiseWalkUptoRow : OpenClaim := { program := "ytjnfonjbbbghpaa", sum := "ef03146ab084b9076878cfb1021d98ba5174474024c5090decaeec557de5839b", func := "loop.example/g01318/laws.FnExactNoiseWalk", spec := "fnExactNoiseWalk", apart := false, narrowed := true }
def FnExactNoiseWalkUptoSaid : Prop := fnExactNoiseWalkUptoRow.holds Try.pinned (OpenSpec.upto fnExactNoiseWalkSpec)

/-- 'laws.FnExactSizesOf', WHERE WHAT IT READS IS OF BULK AT MOST 1048576: true; the input reads as it did. -/
def fnExactSizesOfUptoRow : OpenClaim := { program := "ytjnfonjbbbghpaa", sum := "ef03146ab084b9076878cfb1021d98ba5174474024c5090decaeec557de5839b", func := "loop.example/g01318/laws.FnExactSizesOf", spec := "fnExactSizesOf", inPlace := ["math.Float64bits", "math.Float64frombits"], apart := false, narrowed := true }
def FnExactSizesOfUptoSaid : Prop := fnExactSizesOfUptoRow.holds Try.pinned (OpenSpec.upto fnExactSizesOfSpec)

/-- 'laws.FnExactLogsOf', WHERE WHAT IT READS IS OF BULK AT MOST 1048576: true; the input reads as it did. -/
def fnExactLogsOfUptoRow : OpenClaim := { program := "ytjnfonjbbbghpaa", sum := "ef03146ab084b9076878cfb1021d98ba5174474024c5090decaeec557de5839b", func := "loop.example/g01318/laws.FnExactLogsOf", spec := "fnExactLogsOf", inPlace := ["math.Float64frombits", "math.Float64bits", "math.Float32frombits"], unfollowed := true, recurses := true, apart := false, narrowed := true }
def FnExactLogsOfUptoSaid : Prop := fnExactLogsOfUptoRow.holds Try.pinned (OpenSpec.upto fnExactLogsOfSpec)

/-- 'laws.FnExactCantorSet', WHERE WHAT IT READS IS OF BULK AT MOST 1048576: true; the input reads as it did. -/
def fnExactCantorSetUptoRow : OpenClaim := { program := "ytjnfonjbbbghpaa", sum := "ef03146ab084b9076878cfb1021d98ba5174474024c5090decaeec557de5839b", func := "loop.example/g01318/laws.FnExactCantorSet", spec := "fnExactCantorSet", apart := false, narrowed := true }
def FnExactCantorSetUptoSaid : Prop := fnExactCantorSetUptoRow.holds Try.pinned (OpenSpec.upto fnExactCantorSetSpec)

/-- 'laws.FnExactStepGrowth', WHERE WHAT IT READS IS OF BULK AT MOST 1048576: true; the input reads as it did. -/
def fnExactStepGrowthUptoRow : OpenClaim := { program := "ytjnfonjbbbghpaa", sum := "ef03146ab084b9076878cfb1021d98ba5174474024c5090decaeec557de5839b", func := "loop.example/g01318/laws.FnExactStepGrowth", spec := "fnExactStepGrowth", inPlace := ["math.Float64bits", "math.Float64frombits"], apart := false, narrowed := true }
def FnExactStepGrowthUptoSaid : Prop := fnExactStepGrowthUptoRow.holds Try.pinned (OpenSpec.upto fnExactStepGrowthSpec)

/-- 'laws.FnExactSlopeDoubt', WHERE WHAT IT READS IS OF BULK AT MOST 1048576: true; the input reads as it did. -/
def fnExactSlopeDoubtUptoRow : OpenClaim := { program := "ytjnfonjbbbghpaa", sum := "ef03146ab084b9076878cfb1021d98ba5174474024c5090decaeec557de5839b", func := "loop.example/g01318/laws.FnExactSlopeDoubt", spec := "fnExactSlopeDoubt", inPlace := ["math.sqrt", "math.Float64bits", "math.Float64frombits"], apart := false, narrowed := true }
def FnExactSlopeDoubtUptoSaid : Prop := fnExactSlopeDoubtUptoRow.holds Try.pinned (OpenSpec.upto fnExactSlopeDoubtSpec)

/-- 'laws.FnExactRangeOverSpread', WHERE WHAT IT READS IS OF BULK AT MOST 1048576: true; the input reads as it did. -/
def fnExactRangeOverSpreadUptoRow : OpenClaim := { program := "ytjnfonjbbbghpaa", sum := "ef03146ab084b9076878cfb1021d98ba5174474024c5090decaeec557de5839b", func := "loop.example/g01318/laws.FnExactRangeOverSpread", spec := "fnExactRangeOverSpread", inPlace := ["math.sqrt", "math.Float64bits", "math.Float64frombits"], apart := false, narrowed := true }
def FnExactRangeOverSpreadUptoSaid : Prop := fnExactRangeOverSpreadUptoRow.holds Try.pinned (OpenSpec.upto fnExactRangeOverSpreadSpec)

/-- 'laws.FnExactSlopeOfPowers', WHERE WHAT IT READS IS OF BULK AT MOST 1048576: true; the input reads as it did. -/
def fnExactSlopeOfPowersUptoRow : OpenClaim := { program := "ytjnfonjbbbghpaa", sum := "ef03146ab084b9076878cfb1021d98ba5174474024c5090decaeec557de5839b", func := "loop.example/g01318/laws.FnExactSlopeOfPowers", spec := "fnExactSlopeOfPowers", inPlace := ["math.Float64frombits", "math.Float64bits", "math.Float32frombits"], apart := false, narrowed := true }
def FnExactSlopeOfPowersUptoSaid : Prop := fnExactSlopeOfPowersUptoRow.holds Try.pinned (OpenSpec.upto fnExactSlopeOfPowersSpec)

end Rows
end Go.Proofs.Ytjnfonjbbbghpaa
