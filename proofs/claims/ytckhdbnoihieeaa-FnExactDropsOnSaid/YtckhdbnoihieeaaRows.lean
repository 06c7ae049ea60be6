/-
  No cell of these rows narrows 'for every input' (looked for: loops, veiled, ifaces, maps, wideKeys, modest, calm, conditions, laid).
  DERIVED. THE GIVEN ROWS OF THIS SEAT. 8 by the template 'for every input the law returns true; each argument reads behind the call as it read before'; 0 by the template 'total and deterministic' (their statements: YtckhdbnoihieeaaTotals.lean).
  GIVEN WITH THE SEED: the statements are not yours to turn. If you find one false, say at which input.
  Laid BY PROGRAM, IN A SANDBOX (cutbox-rows.mjs): the forced cells as the released guide's own fill.sh prints them over the translation cf78b48ad2bed789… (all of the seat's roots in one cut). By AI agents, Wed Nov 11 2026. No macro, syntax, notation, axiom, sorry.
-/
import Derived.Test.YtckhdbnoihieeaaChecked
import GoSem.Claim
import GoSem.ClaimJoined
import GoSem.ClaimMapViews
import Derived.JoinedTies
import Derived.KernelRfl
namespace Go.Proofs.Ytckhdbnoihieeaa
/- THE CELL 'sum', in the pinned program and in every row, IS THE sha256 OF THE DUMP (.gsa) THAT YtckhdbnoihieeaaProg.lean LOADS. Nothing in Lean hashes anything: it is a label: what it is worth is what the hold of that sum in a sandbox is worth. -/
noncomputable def Try.pinned : Pinned := { name := "ytckhdbnoihieeaa", sum := "cf78b48ad2bed7890b2af2d586dd2639f82a2eb275c1e81af71cf3f2b34e310a", checked := Try.checked }
namespace Rows
def none {H : Type} : Left H := { results := [], args := [] }

/-- 'laws.FnExactWeighSheets': WHATEVER THE INPUT: true; the input reads as it did. -/
def fnExactWeighSheetsSpec : ChangeSpec := { name := "fnExactWeighSheets", fn := fun _ => fun
  | [d1, d2, d3, d4] => { results := [.lit (.bool true)], args := [d1, d2, d3, d4] }
  | _ => none }
def fnExactWeighSheetsRow : OpenClaim := { program := "ytckhdbnoihieeaa", sum := "cf78b48ad2bed7890b2af2d586dd2639f82a2eb275c1e81af71cf3f2b34e310a", func := "loop.example/g01318/laws.FnExactWeighSheets", spec := "fnExactWeighSheets", inPlace := ["math.Float64bits", "math.Float64frombits"], apart := false }
def FnExactWeighSheetsSaid : Prop := fnExactWeighSheetsRow.holds Try.pinned (OpenSpec.ofChange fnExactWeighSheetsSpec)

/-- ITS FALSE NEIGHBOUR: 'it returns false'. Refute it at one input. -/
def fnExactWeighSheetsWrong : ChangeSpec := { name := "fnExactWeighSheets", fn := fun _ => fun
  | [d1, d2, d3, d4] => { results := [.lit (.bool false)], args := [d1, d2, d3, d4] }
  | _ => none }
def FnExactWeighSheetsWrongFalsely : Prop := fnExactWeighSheetsRow.holds Try.pinned (OpenSpec.ofChange fnExactWeighSheetsWrong)

/-- 'laws.FnExactTalusStep': WHATEVER THE INPUT: true; the input reads as it did. -/
def fnExactTalusStepSpec : ChangeSpec := { name := "fnExactTalusStep", fn := fun _ => fun
  | [d1, d2, d3] => { results := [.lit (.bool true)], args := [d1, d2, d3] }
  | _ => none }
def fnExactTalusStepRow : OpenClaim := { program := "ytckhdbnoihieeaa", sum := "cf78b48ad2bed7890b2af2d586dd2639f82a2eb275c1e81af71cf3f2b34e310a", func := "loop.example/g01318/laws.FnExactTalusStep", spec := "fnExactTalusStep", inPlace := ["math.Float64bits", "math.Float64frombits"], apart := false }
def FnExactTalusStepSaid : Prop := fnExactTalusStepRow.holds Try.pinned (OpenSpec.ofChange fnExactTalusStepSpec)

/-- ITS FALSE NEIGHBOUR: 'it returns false'. Refute it at one input. -/
def fnExactTalusStepWrong : ChangeSpec := { name := "fnExactTalusStep", fn := fun _ => fun
  | [d1, d2, d3] => { results := [.lit (.bool false)], args := [d1, d2, d3] }
  | _ => none }
def FnExactTalusStepWrongFalsely : Prop := fnExactTalusStepRow.holds Try.pinned (OpenSpec.ofChange fnExactTalusStepWrong)

/-- 'laws.FnExactDropOn': WHATEVER THE INPUT: true; the input reads as it did. -/
def fnExactDropOnSpec : ChangeSpec := { name := "fnExactDropOn", fn := fun _ => fun
  | [d1, d2, d3, d4, d5, d6] => { results := [.lit (.bool true)], args := [d1, d2, d3, d4, d5, d6] }
  | _ => none }
def fnExactDropOnRow : OpenClaim := { program := "ytckhdbnoihieeaa", sum := "cf78b48ad2bed7890b2af2d586dd2639f82a2eb275c1e81af71cf3f2b34e310a", func := "loop.example/g01318/laws.FnExactDropOn", spec := "fnExactDropOn", inPlace := ["math.Float64bits", "math.Float64frombits"], apart := false }
def FnExactDropOnSaid : Prop := fnExactDropOnRow.holds Try.pinned (OpenSpec.ofChange fnExactDropOnSpec)

/-- ITS FALSE NEIGHBOUR: 'it returns false'. Refute it at one input. -/
def fnExactDropOnWrong : ChangeSpec := { name := "fnExactDropOn", fn := fun _ => fun
  | [d1, d2, d3, d4, d5, d6] => { results := [.lit (.bool false)], args := [d1, d2, d3, d4, d5, d6] }
  | _ => none }
def FnExactDropOnWrongFalsely : Prop := fnExactDropOnRow.holds Try.pinned (OpenSpec.ofChange fnExactDropOnWrong)

/-- 'laws.FnExactDropsOn': WHATEVER THE INPUT: true; the input reads as it did. -/
def fnExactDropsOnSpec : ChangeSpec := { name := "fnExactDropsOn", fn := fun _ => fun
  | [d1, d2, d3, d4, d5, d6] => { results := [.lit (.bool true)], args := [d1, d2, d3, d4, d5, d6] }
  | _ => none }
def fnExactDropsOnRow : OpenClaim := { program := "ytckhdbnoihieeaa", sum := "cf78b48ad2bed7890b2af2d586dd2639f82a2eb275c1e81af71cf3f2b34e310a", func := "loop.example/g01318/laws.FnExactDropsOn", spec := "fnExactDropsOn", inPlace := ["math.Float64bits", "math.Float64frombits"], unfollowed := true, recurses := true, apart := false }
def FnExactDropsOnSaid : Prop := fnExactDropsOnRow.holds Try.pinned (OpenSpec.ofChange fnExactDropsOnSpec)

/-- ITS FALSE NEIGHBOUR: 'it returns false'. Refute it at one input. -/
def fnExactDropsOnWrong : ChangeSpec := { name := "fnExactDropsOn", fn := fun _ => fun
  | [d1, d2, d3, d4, d5, d6] => { results := [.lit (.bool false)], args := [d1, d2, d3, d4, d5, d6] }
  | _ => none }
def FnExactDropsOnWrongFalsely : Prop := fnExactDropsOnRow.holds Try.pinned (OpenSpec.ofChange fnExactDropsOnWrong)

/-- 'laws.FnExactFlatSheet': WHATEVER THE INPUT: true; the input reads as it did. -/
def fnExactFlatSheetSpec : ChangeSpec := { name := "fnExactFlatSheet", fn := fun _ => fun
  | [d1, d2, d3] => { results := [.lit (.bool true)], args := [d1, d2, d3] }
  | _ => none }
def fnExactFlatSheetRow : OpenClaim := { program := "ytckhdbnoihieeaa", sum := "cf78b48ad2bed7890b2af2d586dd2639f82a2eb275c1e81af71cf3f2b34e310a", func := "loop.example/g01318/laws.FnExactFlatSheet", spec := "fnExactFlatSheet", inPlace := ["math.Float64bits", "math.Float64frombits"], apart := false }
def FnExactFlatSheetSaid : Prop := fnExactFlatSheetRow.holds Try.pinned (OpenSpec.ofChange fnExactFlatSheetSpec)

/-- ITS FALSE NEIGHBOUR: 'it returns false'. Refute it at one input. -/
def fnExactFlatSheetWrong : ChangeSpec := { name := "fnExactFlatSheet", fn := fun _ => fun
  | [d1, d2, d3] => { results := [.lit (.bool false)], args := [d1, d2, d3] }
  | _ => none }
def FnExactFlatSheetWrongFalsely : Prop := fnExactFlatSheetRow.holds Try.pinned (OpenSpec.ofChange fnExactFlatSheetWrong)

/-- 'laws.FnExactSameSheet': WHATEVER THE INPUT: true; the input reads as it did. -/
def fnExactSameSheetSpec : ChangeSpec := { name := "fnExactSameSheet", fn := fun _ => fun
  | [d1, d2] => { results := [.lit (.bool true)], args := [d1, d2] }
  | _ => none }
def fnExactSameSheetRow : OpenClaim := { program := "ytckhdbnoihieeaa", sum := "cf78b48ad2bed7890b2af2d586dd2639f82a2eb275c1e81af71cf3f2b34e310a", func := "loop.example/g01318/laws.FnExactSameSheet", spec := "fnExactSameSheet", inPlace := ["math.Float32bits"], unfollowed := true, recurses := true, apart := false }
def FnExactSameSheetSaid : Prop := fnExactSameSheetRow.holds Try.pinned (OpenSpec.ofChange fnExactSameSheetSpec)

/-- ITS FALSE NEIGHBOUR: 'it returns false'. Refute it at one input. -/
def fnExactSameSheetWrong : ChangeSpec := { name := "fnExactSameSheet", fn := fun _ => fun
  | [d1, d2] => { results := [.lit (.bool false)], args := [d1, d2] }
  | _ => none }
def FnExactSameSheetWrongFalsely : Prop := fnExactSameSheetRow.holds Try.pinned (OpenSpec.ofChange fnExactSameSheetWrong)

/-- 'laws.FnExactLettersAfter': WHATEVER THE INPUT: true; the input reads as it did. -/
def fnExactLettersAfterSpec : ChangeSpec := { name := "fnExactLettersAfter", fn := fun _ => fun
  | [d1, d2] => { results := [.lit (.bool true)], args := [d1, d2] }
  | _ => none }
def fnExactLettersAfterRow : OpenClaim := { program := "ytckhdbnoihieeaa", sum := "cf78b48ad2bed7890b2af2d586dd2639f82a2eb275c1e81af71cf3f2b34e310a", func := "loop.example/g01318/laws.FnExactLettersAfter", spec := "fnExactLettersAfter", inPlace := ["maps.clone"], apart := false }
def FnExactLettersAfterSaid : Prop := fnExactLettersAfterRow.holds Try.pinned (OpenSpec.ofChange fnExactLettersAfterSpec)

/-- ITS FALSE NEIGHBOUR: 'it returns false'. Refute it at one input. -/
def fnExactLettersAfterWrong : ChangeSpec := { name := "fnExactLettersAfter", fn := fun _ => fun
  | [d1, d2] => { results := [.lit (.bool false)], args := [d1, d2] }
  | _ => none }
def FnExactLettersAfterWrongFalsely : Prop := fnExactLettersAfterRow.holds Try.pinned (OpenSpec.ofChange fnExactLettersAfterWrong)

/-- 'laws.FnExactLongAfter': WHATEVER THE INPUT: true; the input reads as it did. -/
def fnExactLongAfterSpec : ChangeSpec := { name := "fnExactLongAfter", fn := fun _ => fun
  | [d1, d2] => { results := [.lit (.bool true)], args := [d1, d2] }
  | _ => none }
def fnExactLongAfterRow : OpenClaim := { program := "ytckhdbnoihieeaa", sum := "cf78b48ad2bed7890b2af2d586dd2639f82a2eb275c1e81af71cf3f2b34e310a", func := "loop.example/g01318/laws.FnExactLongAfter", spec := "fnExactLongAfter", inPlace := ["maps.clone"], apart := false }
def FnExactLongAfterSaid : Prop := fnExactLongAfterRow.holds Try.pinned (OpenSpec.ofChange fnExactLongAfterSpec)

/-- ITS FALSE NEIGHBOUR: 'it returns false'. Refute it at one input. -/
def fnExactLongAfterWrong : ChangeSpec := { name := "fnExactLongAfter", fn := fun _ => fun
  | [d1, d2] => { results := [.lit (.bool false)], args := [d1, d2] }
  | _ => none }
def FnExactLongAfterWrongFalsely : Prop := fnExactLongAfterRow.holds Try.pinned (OpenSpec.ofChange fnExactLongAfterWrong)

/- THE SECOND FORM. 'bulk': how many values and letters a reading holds, each counted each time it is reached (what is shared counts as often as it is met; a slice's spare places count too). A statement '..UptoSaid' is the law's where the arguments, and the package variables that the reading takes, are together of bulk at most 1048576: NARROWER than '..Said'. Prove '..Said' where nothing that the law and all that it calls make is longer than what came in: it says more and counts as full. Else prove '..UptoSaid'. A law counts once. -/
mutual
def uptoBulk {H : Type} : DataW H → Nat
  | .lit (.string bytes) => bytes.length + 1
  | .lit _ => 1
  | .nil => 1
  | .ptr d => uptoBulk d + 1
  | .slice elems spare => uptoBulkAll elems + uptoBulkAll spare + 1
  | .agg parts => uptoBulkAll parts + 1
  | .iface _ d => uptoBulk d + 1
  | .map entries => uptoBulkEntries entries + 1
  | .held _ => 1
def uptoBulkAll {H : Type} : List (DataW H) → Nat
  | [] => 0
  | d :: r => uptoBulk d + uptoBulkAll r
def uptoBulkEntries {H : Type} : List (Lit × DataW H) → Nat
  | [] => 0
  | x :: r => uptoBulkEntry x + uptoBulkEntries r
def uptoBulkEntry {H : Type} : Lit × DataW H → Nat
  | (.string bytes, d) => bytes.length + uptoBulk d + 1
  | (_, d) => uptoBulk d + 1
 end
def uptoSmall : (H : Type) → List (DataW H) → Bool := fun _ ds => decide (uptoBulkAll ds ≤ 1048576)
def OpenSpec.upto (s : _root_.Go.ChangeSpec) : _root_.Go.OpenSpec := { _root_.Go.OpenSpec.ofChange s with cond := some uptoSmall }

/-- 'laws.FnExactWeighSheets', WHERE WHAT IT READS IS OF BULK AT MOST 1048576: true; the input reads as it did. -/
def fnExactWeighSheetsUptoRow : OpenClaim := { program := "ytckhdbnoihieeaa", sum := "cf78b48ad2bed7890b2af2d586dd2639f82a2eb275c1e81af71cf3f2b34e310a", func := "loop.example/g01318/laws.FnExactWeighSheets", spec := "fnExactWeighSheets", inPlace := ["math.Float64bits", "math.Float64frombits"], apart := false, narrowed := true }
def FnExactWeighSheetsUptoSaid : Prop := fnExactWeighSheetsUptoRow.holds Try.pinned (OpenSpec.upto fnExactWeighSheetsSpec)

/-- 'laws.FnExactTalusStep', WHERE WHAT IT READS IS OF BULK AT MOST 1048576: true; the input reads as it did. -/
def fnExactTalusStepUptoRow : OpenClaim := { program := "ytckhdbnoihieeaa", sum := "cf78b48ad2bed7890b2af2d586dd2639f82a2eb275c1e81af71cf3f2b34e310a", func := "loop.example/g01318/laws.FnExactTalusStep", spec := "fnExactTalusStep", inPlace := ["math.Float64bits", "math.Float64frombits"], apart := false, narrowed := true }
def FnExactTalusStepUptoSaid : Prop := fnExactTalusStepUptoRow.holds Try.pinned (OpenSpec.upto fnExactTalusStepSpec)

/-- 'laws.FnExactDropOn', WHERE WHAT IT READS IS OF BULK AT MOST 1048576: true; the input reads as it did. -/
def fnExactDropOnUptoRow : OpenClaim := { program := "ytckhdbnoihieeaa", sum := "cf78b48ad2bed7890b2af2d586dd2639f82a2eb275c1e81af71cf3f2b34e310a", func := "loop.example/g01318/laws.FnExactDropOn", spec := "fnExactDropOn", inPlace := ["math.Float64bits", "math.Float64frombits"], apart := false, narrowed := true }
def FnExactDropOnUptoSaid : Prop := fnExactDropOnUptoRow.holds Try.pinned (OpenSpec.upto fnExactDropOnSpec)

/-- 'laws.FnExactDropsOn', WHERE WHAT IT READS IS OF BULK AT MOST 1048576: true; the input reads as it did. -/
def fnExactDropsOnUptoRow : OpenClaim := { program := "ytckhdbnoihieeaa", sum := "cf78b48ad2bed7890b2af2d586dd2639f82a2eb275c1e81af71cf3f2b34e310a", func := "loop.example/g01318/laws.FnExactDropsOn", spec := "fnExactDropsOn", inPlace := ["math.Float64bits", "math.Float64frombits"], unfollowed := true, recurses := true, apart := false, narrowed := true }
def FnExactDropsOnUptoSaid : Prop := fnExactDropsOnUptoRow.holds Try.pinned (OpenSpec.upto fnExactDropsOnSpec)

/-- 'laws.FnExactFlatSheet', WHERE WHAT IT READS IS OF BULK AT MOST 1048576: true; the input reads as it did. -/
def fnExactFlatSheetUptoRow : OpenClaim := { program := "ytckhdbnoihieeaa", sum := "cf78b48ad2bed7890b2af2d586dd2639f82a2eb275c1e81af71cf3f2b34e310a", func := "loop.example/g01318/laws.FnExactFlatSheet", spec := "fnExactFlatSheet", inPlace := ["math.Float64bits", "math.Float64frombits"], apart := false, narrowed := true }
def FnExactFlatSheetUptoSaid : Prop := fnExactFlatSheetUptoRow.holds Try.pinned (OpenSpec.upto fnExactFlatSheetSpec)

/-- 'laws.FnExactSameSheet', WHERE WHAT IT READS IS OF BULK AT MOST 1048576: true; the input reads as it did. -/
def fnExactSameSheetUptoRow : OpenClaim := { program := "ytckhdbnoihieeaa", sum := "cf78b48ad2bed7890b2af2d586dd2639f82a2eb275c1e81af71cf3f2b34e310a", func := "loop.example/g01318/laws.FnExactSameSheet", spec := "fnExactSameSheet", inPlace := ["math.Float32bits"], unfollowed := true, recurses := true, apart := false, narrowed := true }
def FnExactSameSheetUptoSaid : Prop := fnExactSameSheetUptoRow.holds Try.pinned (OpenSpec.upto fnExactSameSheetSpec)

/-- 'laws.FnExactLettersAfter', WHERE WHAT IT READS IS OF BULK AT MOST 1048576: true; the input reads as it did. -/
def fnExactLettersAfterUptoRow : OpenClaim := { program := "ytckhdbnoihieeaa", sum := "cf78b48ad2bed7890b2af2d586dd2639f82a2eb275c1e81af71cf3f2b34e310a", func := "loop.example/g01318/laws.FnExactLettersAfter", spec := "fnExactLettersAfter", inPlace := ["maps.clone"], apart := false, narrowed := true }
def FnExactLettersAfterUptoSaid : Prop := fnExactLettersAfterUptoRow.holds Try.pinned (OpenSpec.upto fnExactLettersAfterSpec)

/-- 'laws.FnExactLongAfter', WHERE WHAT IT READS IS OF BULK AT MOST 1048576: true; the input reads as it did. -/
def fnExactLongAfterUptoRow : OpenClaim := { program := "ytckhdbnoihieeaa", sum := "cf78b48ad2bed7890b2af2d586dd2639f82a2eb275c1e81af71cf3f2b34e310a", func := "loop.example/g01318/laws.FnExactLongAfter", spec := "fnExactLongAfter", inPlace := ["maps.clone"], apart := false, narrowed := true }
def FnExactLongAfterUptoSaid : Prop := fnExactLongAfterUptoRow.holds Try.pinned (OpenSpec.upto fnExactLongAfterSpec)

end Rows
end Go.Proofs.Ytckhdbnoihieeaa
