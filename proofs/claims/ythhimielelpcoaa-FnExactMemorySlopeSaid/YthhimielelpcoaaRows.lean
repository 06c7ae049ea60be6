/-
  No cell of these rows narrows 'for every input' (looked for: loops, veiled, ifaces, maps, wideKeys, modest, calm, conditions, laid).
  DERIVED. THE GIVEN ROWS OF THIS SEAT. 6 by the template 'for every input the law returns true; each argument reads behind the call as it read before'; 0 by the template 'total and deterministic' (their statements: YthhimielelpcoaaTotals.lean).
  GIVEN WITH THE SEED: the statements are not yours to turn. If you find one false, say at which input.
  Laid BY PROGRAM, IN A SANDBOX (cutbox-rows.mjs): the forced cells as the released guide's own fill.sh prints them over the translation b4445f2e743d9f5e… (all of the seat's roots in one cut). By AI agents, Wed Nov 11 2026. No macro, syntax, notation, axiom, sorry.
-/
import Derived.Test.YthhimielelpcoaaChecked
import GoSem.Claim
import GoSem.ClaimJoined
import GoSem.ClaimMapViews
import Derived.JoinedTies
import Derived.KernelRfl
namespace Go.Proofs.Ythhimielelpcoaa
/- THE CELL 'sum', in the pinned program and in every row, IS THE sha256 OF THE DUMP (.gsa) THAT YthhimielelpcoaaProg.lean LOADS. Nothing in Lean hashes anything: it is a label: what it is worth is what the hold of that sum in a sandbox is worth. -/
noncomputable def Try.pinned : Pinned := { name := "ythhimielelpcoaa", sum := "b4445f2e743d9f5e2e502d0d5e88b328bde4d92296ed70f7df81c99d1cd86e3d", checked := Try.checked }
namespace Rows
def none {H : Type} : Left H := { results := [], args := [] }

/-- 'laws.FnExactGrowEdge': WHATEVER THE INPUT: true; the input reads as it did. -/
def fnExactGrowEdgeSpec : ChangeSpec := { name := "fnExactGrowEdge", fn := fun _ => fun
  | [d1, d2, d3] => { results := [.lit (.bool true)], args := [d1, d2, d3] }
  | _ => none }
def fnExactGrowEdgeRow : OpenClaim := { program := "ythhimielelpcoaa", sum := "b4445f2e743d9f5e2e502d0d5e88b328bde4d92296ed70f7df81c99d1cd86e3d", func := "loop.example/g01318/laws.FnExactGrowEdge", spec := "fnExactGrowEdge", unfollowed := true, recurses := true, apart := false }
def FnExactGrowEdgeSaid : Prop := fnExactGrowEdgeRow.holds Try.pinned (OpenSpec.ofChange fnExactGrowEdgeSpec)

/-- ITS FALSE NEIGHBOUR: 'it returns false'. Refute it at one input. -/
def fnExactGrowEdgeWrong : ChangeSpec := { name := "fnExactGrowEdge", fn := fun _ => fun
  | [d1, d2, d3] => { results := [.lit (.bool false)], args := [d1, d2, d3] }
  | _ => none }
def FnExactGrowEdgeWrongFalsely : Prop := fnExactGrowEdgeRow.holds Try.pinned (OpenSpec.ofChange fnExactGrowEdgeWrong)

/-- 'laws.FnExactInvadeFrom': WHATEVER THE INPUT: true; the input reads as it did. -/
def fnExactInvadeFromSpec : ChangeSpec := { name := "fnExactInvadeFrom", fn := fun _ => fun
  | [d1, d2, d3, d4, d5] => { results := [.lit (.bool true)], args := [d1, d2, d3, d4, d5] }
  | _ => none }
def fnExactInvadeFromRow : OpenClaim := { program := "ythhimielelpcoaa", sum := "b4445f2e743d9f5e2e502d0d5e88b328bde4d92296ed70f7df81c99d1cd86e3d", func := "loop.example/g01318/laws.FnExactInvadeFrom", spec := "fnExactInvadeFrom", inPlace := ["math.Float64bits", "math.Float64frombits"], unfollowed := true, recurses := true, apart := false }
def FnExactInvadeFromSaid : Prop := fnExactInvadeFromRow.holds Try.pinned (OpenSpec.ofChange fnExactInvadeFromSpec)

/-- ITS FALSE NEIGHBOUR: 'it returns false'. Refute it at one input. -/
def fnExactInvadeFromWrong : ChangeSpec := { name := "fnExactInvadeFrom", fn := fun _ => fun
  | [d1, d2, d3, d4, d5] => { results := [.lit (.bool false)], args := [d1, d2, d3, d4, d5] }
  | _ => none }
def FnExactInvadeFromWrongFalsely : Prop := fnExactInvadeFromRow.holds Try.pinned (OpenSpec.ofChange fnExactInvadeFromWrong)

/-- 'laws.FnExactMemorySlope': WHATEVER THE INPUT: true; the input reads as it did. -/
def fnExactMemorySlopeSpec : ChangeSpec := { name := "fnExactMemorySlope", fn := fun _ => fun
  | [d1, d2] => { results := [.lit (.bool true)], args := [d1, d2] }
  | _ => none }
def fnExactMemorySlopeRow : OpenClaim := { program := "ythhimielelpcoaa", sum := "b4445f2e743d9f5e2e502d0d5e88b328bde4d92296ed70f7df81c99d1cd86e3d", func := "loop.example/g01318/laws.FnExactMemorySlope", spec := "fnExactMemorySlope", inPlace := ["math.sqrt", "math.Float64frombits", "math.Float64bits", "math.Float32frombits"], unfollowed := true, recurses := true, apart := false }
def FnExactMemorySlopeSaid : Prop := fnExactMemorySlopeRow.holds Try.pinned (OpenSpec.ofChange fnExactMemorySlopeSpec)

/-- ITS FALSE NEIGHBOUR: 'it returns false'. Refute it at one input. -/
def fnExactMemorySlopeWrong : ChangeSpec := { name := "fnExactMemorySlope", fn := fun _ => fun
  | [d1, d2] => { results := [.lit (.bool false)], args := [d1, d2] }
  | _ => none }
def FnExactMemorySlopeWrongFalsely : Prop := fnExactMemorySlopeRow.holds Try.pinned (OpenSpec.ofChange fnExactMemorySlopeWrong)

/-- 'laws.FnExactTurtleLine': WHATEVER THE INPUT: true; the input reads as it did. -/
def fnExactTurtleLineSpec : ChangeSpec := { name := "fnExactTurtleLine", fn := fun _ => fun
  | [d1, d2, d3] => { results := [.lit (.bool true)], args := [d1, d2, d3] }
  | _ => none }
def fnExactTurtleLineRow : OpenClaim := { program := "ythhimielelpcoaa", sum := "b4445f2e743d9f5e2e502d0d5e88b328bde4d92296ed70f7df81c99d1cd86e3d", func := "loop.example/g01318/laws.FnExactTurtleLine", spec := "fnExactTurtleLine", inPlace := ["math.Float32frombits", "math.Float64frombits", "math.Float64bits", "internal/bytealg.IndexByteString", "internal/bytealg.IndexString"], unfollowed := true, recurses := true, named := ["internal/bytealg.MaxLen"], apart := false }
def FnExactTurtleLineSaid : Prop := fnExactTurtleLineRow.holds Try.pinned (OpenSpec.ofChange fnExactTurtleLineSpec)

/-- ITS FALSE NEIGHBOUR: 'it returns false'. Refute it at one input. -/
def fnExactTurtleLineWrong : ChangeSpec := { name := "fnExactTurtleLine", fn := fun _ => fun
  | [d1, d2, d3] => { results := [.lit (.bool false)], args := [d1, d2, d3] }
  | _ => none }
def FnExactTurtleLineWrongFalsely : Prop := fnExactTurtleLineRow.holds Try.pinned (OpenSpec.ofChange fnExactTurtleLineWrong)

/-- 'laws.FnExactTurtleTwigs': WHATEVER THE INPUT: true; the input reads as it did. -/
def fnExactTurtleTwigsSpec : ChangeSpec := { name := "fnExactTurtleTwigs", fn := fun _ => fun
  | [d1, d2, d3] => { results := [.lit (.bool true)], args := [d1, d2, d3] }
  | _ => none }
def fnExactTurtleTwigsRow : OpenClaim := { program := "ythhimielelpcoaa", sum := "b4445f2e743d9f5e2e502d0d5e88b328bde4d92296ed70f7df81c99d1cd86e3d", func := "loop.example/g01318/laws.FnExactTurtleTwigs", spec := "fnExactTurtleTwigs", inPlace := ["math.Float32frombits", "math.Float64frombits", "math.Float64bits"], unfollowed := true, recurses := true, apart := false }
def FnExactTurtleTwigsSaid : Prop := fnExactTurtleTwigsRow.holds Try.pinned (OpenSpec.ofChange fnExactTurtleTwigsSpec)

/-- ITS FALSE NEIGHBOUR: 'it returns false'. Refute it at one input. -/
def fnExactTurtleTwigsWrong : ChangeSpec := { name := "fnExactTurtleTwigs", fn := fun _ => fun
  | [d1, d2, d3] => { results := [.lit (.bool false)], args := [d1, d2, d3] }
  | _ => none }
def FnExactTurtleTwigsWrongFalsely : Prop := fnExactTurtleTwigsRow.holds Try.pinned (OpenSpec.ofChange fnExactTurtleTwigsWrong)

/-- 'laws.FnExactPutRule': WHATEVER THE INPUT: true; the input reads as it did. -/
def fnExactPutRuleSpec : ChangeSpec := { name := "fnExactPutRule", fn := fun _ => fun
  | [d1, d2] => { results := [.lit (.bool true)], args := [d1, d2] }
  | _ => none }
def fnExactPutRuleRow : OpenClaim := { program := "ythhimielelpcoaa", sum := "b4445f2e743d9f5e2e502d0d5e88b328bde4d92296ed70f7df81c99d1cd86e3d", func := "loop.example/g01318/laws.FnExactPutRule", spec := "fnExactPutRule", inPlace := ["slices.overlaps[loop.example/g01318/impl.Rule]"], unfollowed := true, recurses := true, apart := false }
def FnExactPutRuleSaid : Prop := fnExactPutRuleRow.holds Try.pinned (OpenSpec.ofChange fnExactPutRuleSpec)

/-- ITS FALSE NEIGHBOUR: 'it returns false'. Refute it at one input. -/
def fnExactPutRuleWrong : ChangeSpec := { name := "fnExactPutRule", fn := fun _ => fun
  | [d1, d2] => { results := [.lit (.bool false)], args := [d1, d2] }
  | _ => none }
def FnExactPutRuleWrongFalsely : Prop := fnExactPutRuleRow.holds Try.pinned (OpenSpec.ofChange fnExactPutRuleWrong)

/- THE SECOND FORM. 'bulk': how many values and letters a reading holds, each counted each time it is reached (what is shared counts as often as it is met; a slice's spare places count too). A statement '..UptoSaid' is the law's where the arguments, and the package variables that the reading takes, are together of bulk at most 1048576: NARROWER than '..Said'. Prove '..Said' where nothing that the law and all that it calls make is longer than what came in: it says more and counts as full. Else prove '..UptoSaid'. A law counts once. -/
mutual
def uptoBulk {H : Type} : DataW H → Nat
  | .lit (.string bytes) => bytes.length + 1
  | .lit _ => 1
  | .nil => 1
  | .ptr d => uptoBulk d + 1
  | .slice elems spare => uptoBulkAll elems + uptoBulkAll spare + 1
  | .agg parts => uptoBulkAll parts + 1
  | .iface _ d => uptoBulk d + 1
  | .map entries => uptoBulkEntries entries + 1
  | .held _ => 1
def uptoBulkAll {H : Type} : List (DataW H) → Nat
  | [] => 0
  | d :: r => uptoBulk d + uptoBulkAll r
def uptoBulkEntries {H : Type} : List (Lit × DataW H) → Nat
  | [] => 0
  | x :: r => uptoBulkEntry x + uptoBulkEntries r
def uptoBulkEntry {H : Type} : Lit × DataW H → Nat
  | (.string bytes, d) => bytes.length + uptoBulk d + 1
  | (_, d) => uptoBulk d + 1
 end
def uptoSmall : (H : Type) → List (DataW H) → Bool := fun _ ds => decide (uptoBulkAll ds ≤ 1048576)
def OpenSpec.upto (s : _root_.Go.ChangeSpec) : _root_.Go.OpenSpec := { _root_.Go.OpenSpec.ofChange s with cond := some uptoSmall }

/-- 'laws.FnExactGrowEdge', WHERE WHAT IT READS IS OF BULK AT MOST 1048576: true; the input reads as it did. -/
def fnExactGrowEdgeUptoRow : OpenClaim := { program := "ythhimielelpcoaa", sum := "b4445f2e743d9f5e2e502d0d5e88b328bde4d92296ed70f7df81c99d1cd86e3d", func := "loop.example/g01318/laws.FnExactGrowEdge", spec := "fnExactGrowEdge", unfollowed := true, recurses := true, apart := false, narrowed := true }
def FnExactGrowEdgeUptoSaid : Prop := fnExactGrowEdgeUptoRow.holds Try.pinned (OpenSpec.upto fnExactGrowEdgeSpec)

/-- 'laws.FnExactInvadeFrom', WHERE WHAT IT READS IS OF BULK AT MOST 1048576: true; the input reads as it did. -/
def fnExactInvadeFromUptoRow : OpenClaim := { program := "ythhimielelpcoaa", sum := "b4445f2e743d9f5e2e502d0d5e88b328bde4d92296ed70f7df81c99d1cd86e3d", func := "loop.example/g01318/laws.FnExactInvadeFrom", spec := "fnExactInvadeFrom", inPlace := ["math.Float64bits", "math.Float64frombits"], unfollowed := true, recurses := true, apart := false, narrowed := true }
def FnExactInvadeFromUptoSaid : Prop := fnExactInvadeFromUptoRow.holds Try.pinned (OpenSpec.upto fnExactInvadeFromSpec)

/-- 'laws.FnExactMemorySlope', WHERE WHAT IT READS IS OF BULK AT MOST 1048576: true; the input reads as it did. -/
def fnExactMemorySlopeUptoRow : OpenClaim := { program := "ythhimielelpcoaa", sum := "b4445f2e743d9f5e2e502d0d5e88b328bde4d92296ed70f7df81c99d1cd86e3d", func := "loop.example/g01318/laws.FnExactMemorySlope", spec := "fnExactMemorySlope", inPlace := ["math.sqrt", "math.Float64frombits", "math.Float64bits", "math.Float32frombits"], unfollowed := true, recurses := true, apart := false, narrowed := true }
def FnExactMemorySlopeUptoSaid : Prop := fnExactMemorySlopeUptoRow.holds Try.pinned (OpenSpec.upto fnExactMemorySlopeSpec)

/-- 'laws.FnExactTurtleLine', WHERE WHAT IT READS IS OF BULK AT MOST 1048576: true; the input reads as it did. -/
def fnExactTurtleLineUptoRow : OpenClaim := { program := "ythhimielelpcoaa", sum := "b4445f2e743d9f5e2e502d0d5e88b328bde4d92296ed70f7df81c99d1cd86e3d", func := "loop.example/g01318/laws.FnExactTurtleLine", spec := "fnExactTurtleLine", inPlace := ["math.Float32frombits", "math.Float64frombits", "math.Float64bits", "internal/bytealg.IndexByteString", "internal/bytealg.IndexString"], unfollowed := true, recurses := true, named := ["internal/bytealg.MaxLen"], apart := false, narrowed := true }
def FnExactTurtleLineUptoSaid : Prop := fnExactTurtleLineUptoRow.holds Try.pinned (OpenSpec.upto fnExactTurtleLineSpec)

/-- 'laws.FnExactTurtleTwigs', WHERE WHAT IT READS IS OF BULK AT MOST 1048576: true; the input reads as it did. -/
def fnExactTurtleTwigsUptoRow : OpenClaim := { program := "ythhimielelpcoaa", sum := "b4445f2e743d9f5e2e502d0d5e88b328bde4d92296ed70f7df81c99d1cd86e3d", func := "loop.example/g01318/laws.FnExactTurtleTwigs", spec := "fnExactTurtleTwigs", inPlace := ["math.Float32frombits", "math.Float64frombits", "math.Float64bits"], unfollowed := true, recurses := true, apart := false, narrowed := true }
def FnExactTurtleTwigsUptoSaid : Prop := fnExactTurtleTwigsUptoRow.holds Try.pinned (OpenSpec.upto fnExactTurtleTwigsSpec)

/-- 'laws.FnExactPutRule', WHERE WHAT IT READS IS OF BULK AT MOST 1048576: true; the input reads as it did. -/
def fnExactPutRuleUptoRow : OpenClaim := { program := "ythhimielelpcoaa", sum := "b4445f2e743d9f5e2e502d0d5e88b328bde4d92296ed70f7df81c99d1cd86e3d", func := "loop.example/g01318/laws.FnExactPutRule", spec := "fnExactPutRule", inPlace := ["slices.overlaps[loop.example/g01318/impl.Rule]"], unfollowed := true, recurses := true, apart := false, narrowed := true }
def FnExactPutRuleUptoSaid : Prop := fnExactPutRuleUptoRow.holds Try.pinned (OpenSpec.upto fnExactPutRuleSpec)

end Rows
end Go.Proofs.Ythhimielelpcoaa
