/-
  No cell of these rows narrows 'for every input' (looked for: loops, veiled, ifaces, maps, wideKeys, modest, calm, conditions, laid).
  DERIVED. THE GIVEN ROWS OF THIS SEAT. 6 by the template 'for every input the law returns true; each argument reads behind the call as it read before'; 0 by the template 'total and deterministic' (their statements: YtfjahgojmiednaaTotals.lean).
  GIVEN WITH THE SEED: the statements are not yours to turn. If you find one false, say at which input.
  Laid BY PROGRAM, IN A SANDBOX (cutbox-rows.mjs): the forced cells as the released guide's own fill.sh prints them over the translation 0808429ebab6fa43… (all of the seat's roots in one cut). By AI agents, Wed Nov 11 2026. No macro, syntax, notation, axiom, sorry.
-/
import Derived.Test.YtfjahgojmiednaaChecked
import GoSem.Claim
import GoSem.ClaimJoined
import GoSem.ClaimMapViews
import Derived.JoinedTies
import Derived.KernelRfl
namespace Go.Proofs.Ytfjahgojmiednaa
/- THE CELL 'sum', in the pinned program and in every row, IS THE sha256 OF THE DUMP (.gsa) THAT YtfjahgojmiednaaProg.lean LOADS. Nothing in Lean hashes anything: it is a label: what it is worth is what the hold of that sum in a sandbox is worth. -/
noncomputable def Try.pinned : Pinned := { name := "ytfjahgojmiednaa", sum := "0808429ebab6fa437fb8dd429eccad63aa1757ddc9f739f313638218fb486344", checked := Try.checked }
namespace Rows
def none {H : Type} : Left H := { results := [], args := [] }

/-- 'laws.FnExactVariogramOf': WHATEVER THE INPUT: true; the input reads as it did. -/
def fnExactVariogramOfSpec : ChangeSpec := { name := "fnExactVariogramOf", fn := fun _ => fun
  | [d1, d2] => { results := [.lit (.bool true)], args := [d1, d2] }
  | _ => none }
def fnExactVariogramOfRow : OpenClaim := { program := "ytfjahgojmiednaa", sum := "0808429ebab6fa437fb8dd429eccad63aa1757ddc9f739f313638218fb486344", func := "loop.example/g01318/laws.FnExactVariogramOf", spec := "fnExactVariogramOf", inPlace := ["math.Float64bits", "math.Float64frombits"], unfollowed := true, recurses := true, apart := false }
def FnExactVariogramOfSaid : Prop := fnExactVariogramOfRow.holds Try.pinned (OpenSpec.ofChange fnExactVariogramOfSpec)

/-- ITS FALSE NEIGHBOUR: 'it returns false'. Refute it at one input. -/
def fnExactVariogramOfWrong : ChangeSpec := { name := "fnExactVariogramOf", fn := fun _ => fun
  | [d1, d2] => { results := [.lit (.bool false)], args := [d1, d2] }
  | _ => none }
def FnExactVariogramOfWrongFalsely : Prop := fnExactVariogramOfRow.holds Try.pinned (OpenSpec.ofChange fnExactVariogramOfWrong)

/-- 'laws.FnExactRoughnessOf': WHATEVER THE INPUT: true; the input reads as it did. -/
def fnExactRoughnessOfSpec : ChangeSpec := { name := "fnExactRoughnessOf", fn := fun _ => fun
  | [d1, d2] => { results := [.lit (.bool true)], args := [d1, d2] }
  | _ => none }
def fnExactRoughnessOfRow : OpenClaim := { program := "ytfjahgojmiednaa", sum := "0808429ebab6fa437fb8dd429eccad63aa1757ddc9f739f313638218fb486344", func := "loop.example/g01318/laws.FnExactRoughnessOf", spec := "fnExactRoughnessOf", inPlace := ["math.Float64frombits", "math.Float64bits", "math.Float32frombits"], unfollowed := true, recurses := true, apart := false }
def FnExactRoughnessOfSaid : Prop := fnExactRoughnessOfRow.holds Try.pinned (OpenSpec.ofChange fnExactRoughnessOfSpec)

/-- ITS FALSE NEIGHBOUR: 'it returns false'. Refute it at one input. -/
def fnExactRoughnessOfWrong : ChangeSpec := { name := "fnExactRoughnessOf", fn := fun _ => fun
  | [d1, d2] => { results := [.lit (.bool false)], args := [d1, d2] }
  | _ => none }
def FnExactRoughnessOfWrongFalsely : Prop := fnExactRoughnessOfRow.holds Try.pinned (OpenSpec.ofChange fnExactRoughnessOfWrong)

/-- 'laws.FnExactCoastOf': WHATEVER THE INPUT: true; the input reads as it did. -/
def fnExactCoastOfSpec : ChangeSpec := { name := "fnExactCoastOf", fn := fun _ => fun
  | [d1, d2] => { results := [.lit (.bool true)], args := [d1, d2] }
  | _ => none }
def fnExactCoastOfRow : OpenClaim := { program := "ytfjahgojmiednaa", sum := "0808429ebab6fa437fb8dd429eccad63aa1757ddc9f739f313638218fb486344", func := "loop.example/g01318/laws.FnExactCoastOf", spec := "fnExactCoastOf", inPlace := ["math.Float64bits", "math.Float64frombits"], unfollowed := true, recurses := true, apart := false }
def FnExactCoastOfSaid : Prop := fnExactCoastOfRow.holds Try.pinned (OpenSpec.ofChange fnExactCoastOfSpec)

/-- ITS FALSE NEIGHBOUR: 'it returns false'. Refute it at one input. -/
def fnExactCoastOfWrong : ChangeSpec := { name := "fnExactCoastOf", fn := fun _ => fun
  | [d1, d2] => { results := [.lit (.bool false)], args := [d1, d2] }
  | _ => none }
def FnExactCoastOfWrongFalsely : Prop := fnExactCoastOfRow.holds Try.pinned (OpenSpec.ofChange fnExactCoastOfWrong)

/-- 'laws.FnExactContourOf': WHATEVER THE INPUT: true; the input reads as it did. -/
def fnExactContourOfSpec : ChangeSpec := { name := "fnExactContourOf", fn := fun _ => fun
  | [d1, d2] => { results := [.lit (.bool true)], args := [d1, d2] }
  | _ => none }
def fnExactContourOfRow : OpenClaim := { program := "ytfjahgojmiednaa", sum := "0808429ebab6fa437fb8dd429eccad63aa1757ddc9f739f313638218fb486344", func := "loop.example/g01318/laws.FnExactContourOf", spec := "fnExactContourOf", inPlace := ["math.Float64bits", "math.Float64frombits"], unfollowed := true, recurses := true, apart := false }
def FnExactContourOfSaid : Prop := fnExactContourOfRow.holds Try.pinned (OpenSpec.ofChange fnExactContourOfSpec)

/-- ITS FALSE NEIGHBOUR: 'it returns false'. Refute it at one input. -/
def fnExactContourOfWrong : ChangeSpec := { name := "fnExactContourOf", fn := fun _ => fun
  | [d1, d2] => { results := [.lit (.bool false)], args := [d1, d2] }
  | _ => none }
def FnExactContourOfWrongFalsely : Prop := fnExactContourOfRow.holds Try.pinned (OpenSpec.ofChange fnExactContourOfWrong)

/-- 'laws.FnExactDiamondSheet': WHATEVER THE INPUT: true; the input reads as it did. -/
def fnExactDiamondSheetSpec : ChangeSpec := { name := "fnExactDiamondSheet", fn := fun _ => fun
  | [d1, d2, d3, d4, d5] => { results := [.lit (.bool true)], args := [d1, d2, d3, d4, d5] }
  | _ => none }
def fnExactDiamondSheetRow : OpenClaim := { program := "ytfjahgojmiednaa", sum := "0808429ebab6fa437fb8dd429eccad63aa1757ddc9f739f313638218fb486344", func := "loop.example/g01318/laws.FnExactDiamondSheet", spec := "fnExactDiamondSheet", inPlace := ["math.Float64bits", "math.Float64frombits"], unfollowed := true, recurses := true, apart := false }
def FnExactDiamondSheetSaid : Prop := fnExactDiamondSheetRow.holds Try.pinned (OpenSpec.ofChange fnExactDiamondSheetSpec)

/-- ITS FALSE NEIGHBOUR: 'it returns false'. Refute it at one input. -/
def fnExactDiamondSheetWrong : ChangeSpec := { name := "fnExactDiamondSheet", fn := fun _ => fun
  | [d1, d2, d3, d4, d5] => { results := [.lit (.bool false)], args := [d1, d2, d3, d4, d5] }
  | _ => none }
def FnExactDiamondSheetWrongFalsely : Prop := fnExactDiamondSheetRow.holds Try.pinned (OpenSpec.ofChange fnExactDiamondSheetWrong)

/-- 'laws.FnExactIslandsOver': WHATEVER THE INPUT: true; the input reads as it did. -/
def fnExactIslandsOverSpec : ChangeSpec := { name := "fnExactIslandsOver", fn := fun _ => fun
  | [d1, d2] => { results := [.lit (.bool true)], args := [d1, d2] }
  | _ => none }
def fnExactIslandsOverRow : OpenClaim := { program := "ytfjahgojmiednaa", sum := "0808429ebab6fa437fb8dd429eccad63aa1757ddc9f739f313638218fb486344", func := "loop.example/g01318/laws.FnExactIslandsOver", spec := "fnExactIslandsOver", inPlace := ["math.Float64bits", "math.Float64frombits"], unfollowed := true, recurses := true, apart := false }
def FnExactIslandsOverSaid : Prop := fnExactIslandsOverRow.holds Try.pinned (OpenSpec.ofChange fnExactIslandsOverSpec)

/-- ITS FALSE NEIGHBOUR: 'it returns false'. Refute it at one input. -/
def fnExactIslandsOverWrong : ChangeSpec := { name := "fnExactIslandsOver", fn := fun _ => fun
  | [d1, d2] => { results := [.lit (.bool false)], args := [d1, d2] }
  | _ => none }
def FnExactIslandsOverWrongFalsely : Prop := fnExactIslandsOverRow.holds Try.pinned (OpenSpec.ofChange fnExactIslandsOverWrong)

/- THE SECOND FORM. 'bulk': how many values and letters a reading holds, each counted each time it is reached (what is shared counts as often as it is met; a slice's spare places count too). A statement '..UptoSaid' is the law's where the arguments, and the package variables that the reading takes, are together of bulk at most 1048576: NARROWER than '..Said'. Prove '..Said' where nothing that the law and all that it calls make is longer than what came in: it says more and counts as full. Else prove '..UptoSaid'. A law counts once. -/
mutual
def uptoBulk {H : Type} : DataW H → Nat
  | .lit (.string bytes) => bytes.length + 1
  | .lit _ => 1
  | .nil => 1
  | .ptr d => uptoBulk d + 1
  | .slice elems spare => uptoBulkAll elems + uptoBulkAll spare + 1
  | .agg parts => uptoBulkAll parts + 1
  | .iface _ d => uptoBulk d + 1
  | .map entries => uptoBulkEntries entries + 1
  | .held _ => 1
def uptoBulkAll {H : Type} : List (DataW H) → Nat
  | [] => 0
  | d :: r => uptoBulk d + uptoBulkAll r
def uptoBulkEntries {H : Type} : List (Lit × DataW H) → Nat
  | [] => 0
  | x :: r => uptoBulkEntry x + uptoBulkEntries r
def uptoBulkEntry {H : Type} : Lit × DataW H → Nat
  | (.string bytes, d) => bytes.length + uptoBulk d + 1
  | (_, d) => uptoBulk d + 1
 end
def uptoSmall : (H : Type) → List (DataW H) → Bool := fun _ ds => decide (uptoBulkAll ds ≤ 1048576)
def OpenSpec.upto (s : _root_.Go.ChangeSpec) : _root_.Go.OpenSpec := { _root_.Go.OpenSpec.ofChange s with cond := some uptoSmall }

/-- 'laws.FnExactVariogramOf', WHERE WHAT IT READS IS OF BULK AT MOST 1048576: true; the input reads as it did. -/
def fnExactVariogramOfUptoRow : OpenClaim := { program := "ytfjahgojmiednaa", sum := "0808429ebab6fa437fb8dd429eccad63aa1757ddc9f739f313638218fb486344", func := "loop.example/g01318/laws.FnExactVariogramOf", spec := "fnExactVariogramOf", inPlace := ["math.Float64bits", "math.Float64frombits"], unfollowed := true, recurses := true, apart := false, narrowed := true }
def FnExactVariogramOfUptoSaid : Prop := fnExactVariogramOfUptoRow.holds Try.pinned (OpenSpec.upto fnExactVariogramOfSpec)

/-- 'laws.FnExactRoughnessOf', WHERE WHAT IT READS IS OF BULK AT MOST 1048576: true; the input reads as it did. -/
def fnExactRoughnessOfUptoRow : OpenClaim := { program := "ytfjahgojmiednaa", sum := "0808429ebab6fa437fb8dd429eccad63aa1757ddc9f739f313638218fb486344", func := "loop.example/g01318/laws.FnExactRoughnessOf", spec := "fnExactRoughnessOf", inPlace := ["math.Float64frombits", "math.Float64bits", "math.Float32frombits"], unfollowed := true, recurses := true, apart := false, narrowed := true }
def FnExactRoughnessOfUptoSaid : Prop := fnExactRoughnessOfUptoRow.holds Try.pinned (OpenSpec.upto fnExactRoughnessOfSpec)

/-- 'laws.FnExactCoastOf', WHERE WHAT IT READS IS OF BULK AT MOST 1048576: true; the input reads as it did. -/
def fnExactCoastOfUptoRow : OpenClaim := { program := "ytfjahgojmiednaa", sum := "0808429ebab6fa437fb8dd429eccad63aa1757ddc9f739f313638218fb486344", func := "loop.example/g01318/laws.FnExactCoastOf", spec := "fnExactCoastOf", inPlace := ["math.Float64bits", "math.Float64frombits"], unfollowed := true, recurses := true, apart := false, narrowed := true }
def FnExactCoastOfUptoSaid : Prop := fnExactCoastOfUptoRow.holds Try.pinned (OpenSpec.upto fnExactCoastOfSpec)

/-- 'laws.FnExactContourOf', WHERE WHAT IT READS IS OF BULK AT MOST 1048576: true; the input reads as it did. -/
def fnExactContourOfUptoRow : OpenClaim := { program := "ytfjahgojmiednaa", sum := "0808429ebab6fa437fb8dd429eccad63aa1757ddc9f739f313638218fb486344", func := "loop.example/g01318/laws.FnExactContourOf", spec := "fnExactContourOf", inPlace := ["math.Float64bits", "math.Float64frombits"], unfollowed := true, recurses := true, apart := false, narrowed := true }
def FnExactContourOfUptoSaid : Prop := fnExactContourOfUptoRow.holds Try.pinned (OpenSpec.upto fnExactContourOfSpec)

/-- 'laws.FnExactDiamondSheet', WHERE WHAT IT READS IS OF BULK AT MOST 1048576: true; the input reads as it did. -/
def fnExactDiamondSheetUptoRow : OpenClaim := { program := "ytfjahgojmiednaa", sum := "0808429ebab6fa437fb8dd429eccad63aa1757ddc9f739f313638218fb486344", func := "loop.example/g01318/laws.FnExactDiamondSheet", spec := "fnExactDiamondSheet", inPlace := ["math.Float64bits", "math.Float64frombits"], unfollowed := true, recurses := true, apart := false, narrowed := true }
def FnExactDiamondSheetUptoSaid : Prop := fnExactDiamondSheetUptoRow.holds Try.pinned (OpenSpec.upto fnExactDiamondSheetSpec)

/-- 'laws.FnExactIslandsOver', WHERE WHAT IT READS IS OF BULK AT MOST 1048576: true; the input reads as it did. -/
def fnExactIslandsOverUptoRow : OpenClaim := { program := "ytfjahgojmiednaa", sum := "0808429ebab6fa437fb8dd429eccad63aa1757ddc9f739f313638218fb486344", func := "loop.example/g01318/laws.FnExactIslandsOver", spec := "fnExactIslandsOver", inPlace := ["math.Float64bits", "math.Float64frombits"], unfollowed := true, recurses := true, apart := false, narrowed := true }
def FnExactIslandsOverUptoSaid : Prop := fnExactIslandsOverUptoRow.holds Try.pinned (OpenSpec.upto fnExactIslandsOverSpec)

end Rows
end Go.Proofs.Ytfjahgojmiednaa
