/-
  No cell of these rows narrows 'for every input' (looked for: loops, veiled, ifaces, maps, wideKeys, modest, calm, conditions, laid).
  DERIVED. THE GIVEN ROWS OF THIS SEAT. 6 by the template 'for every input the law returns true; each argument reads behind the call as it read before'; 0 by the template 'total and deterministic' (their statements: YtnhcmloaanamnaaTotals.lean).
  GIVEN WITH THE SEED: the statements are not yours to turn. If you find one false, say at which input.
  Laid BY PROGRAM, IN A SANDBOX (cutbox-rows.mjs): the forced cells as the released guide's own fill.sh prints them over the translation 06c4ff07dbcebc7c… (all of the seat's roots in one cut). By AI agents, Wed Nov 11 2026. No macro, syntax, notation, axiom, sorry.
-/
import Derived.Test.YtnhcmloaanamnaaChecked
import GoSem.Claim
import GoSem.ClaimJoined
import GoSem.ClaimMapViews
import Derived.JoinedTies
import Derived.KernelRfl
namespace Go.Proofs.Ytnhcmloaanamnaa
/- THE CELL 'sum', in the pinned program and in every row, IS THE sha256 OF THE DUMP (.gsa) THAT YtnhcmloaanamnaaProg.lean LOADS. Nothing in Lean hashes anything: it is a label: what it is worth is what the hold of that sum in a sandbox is worth. -/
noncomputable def Try.pinned : Pinned := { name := "ytnhcmloaanamnaa", sum := "06c4ff07dbcebc7c4a47f708b4475cd9b810494a5b13d83ae9314f49ad665f86", checked := Try.checked }
namespace Rows
def none {H : Type} : Left H := { results := [], args := [] }

/-- 'laws.FnExactRankOf': WHATEVER THE INPUT: true; the input reads as it did. -/
def fnExactRankOfSpec : ChangeSpec := { name := "fnExactRankOf", fn := fun _ => fun
  | [d] => { results := [.lit (.bool true)], args := [d] }
  | _ => none }
def fnExactRankOfRow : OpenClaim := { program := "ytnhcmloaanamnaa", sum := "06c4ff07dbcebc7c4a47f708b4475cd9b810494a5b13d83ae9314f49ad665f86", func := "loop.example/g01318/laws.FnExactRankOf", spec := "fnExactRankOf", inPlace := ["math.Float64bits", "math.Float64frombits"], unfollowed := true, recurses := true, apart := false }
def FnExactRankOfSaid : Prop := fnExactRankOfRow.holds Try.pinned (OpenSpec.ofChange fnExactRankOfSpec)

/-- ITS FALSE NEIGHBOUR: 'it returns false'. Refute it at one input. -/
def fnExactRankOfWrong : ChangeSpec := { name := "fnExactRankOf", fn := fun _ => fun
  | [d] => { results := [.lit (.bool false)], args := [d] }
  | _ => none }
def FnExactRankOfWrongFalsely : Prop := fnExactRankOfRow.holds Try.pinned (OpenSpec.ofChange fnExactRankOfWrong)

/-- 'laws.FnExactGapsOf': WHATEVER THE INPUT: true; the input reads as it did. -/
def fnExactGapsOfSpec : ChangeSpec := { name := "fnExactGapsOf", fn := fun _ => fun
  | [d] => { results := [.lit (.bool true)], args := [d] }
  | _ => none }
def fnExactGapsOfRow : OpenClaim := { program := "ytnhcmloaanamnaa", sum := "06c4ff07dbcebc7c4a47f708b4475cd9b810494a5b13d83ae9314f49ad665f86", func := "loop.example/g01318/laws.FnExactGapsOf", spec := "fnExactGapsOf", inPlace := ["math.Float64bits", "math.Float64frombits"], unfollowed := true, recurses := true, apart := false }
def FnExactGapsOfSaid : Prop := fnExactGapsOfRow.holds Try.pinned (OpenSpec.ofChange fnExactGapsOfSpec)

/-- ITS FALSE NEIGHBOUR: 'it returns false'. Refute it at one input. -/
def fnExactGapsOfWrong : ChangeSpec := { name := "fnExactGapsOf", fn := fun _ => fun
  | [d] => { results := [.lit (.bool false)], args := [d] }
  | _ => none }
def FnExactGapsOfWrongFalsely : Prop := fnExactGapsOfRow.holds Try.pinned (OpenSpec.ofChange fnExactGapsOfWrong)

/-- 'laws.FnExactTailSlope': WHATEVER THE INPUT: true; the input reads as it did. -/
def fnExactTailSlopeSpec : ChangeSpec := { name := "fnExactTailSlope", fn := fun _ => fun
  | [d1, d2] => { results := [.lit (.bool true)], args := [d1, d2] }
  | _ => none }
def fnExactTailSlopeRow : OpenClaim := { program := "ytnhcmloaanamnaa", sum := "06c4ff07dbcebc7c4a47f708b4475cd9b810494a5b13d83ae9314f49ad665f86", func := "loop.example/g01318/laws.FnExactTailSlope", spec := "fnExactTailSlope", inPlace := ["math.Float64frombits", "math.Float64bits", "math.Float32frombits"], unfollowed := true, recurses := true, apart := false }
def FnExactTailSlopeSaid : Prop := fnExactTailSlopeRow.holds Try.pinned (OpenSpec.ofChange fnExactTailSlopeSpec)

/-- ITS FALSE NEIGHBOUR: 'it returns false'. Refute it at one input. -/
def fnExactTailSlopeWrong : ChangeSpec := { name := "fnExactTailSlope", fn := fun _ => fun
  | [d1, d2] => { results := [.lit (.bool false)], args := [d1, d2] }
  | _ => none }
def FnExactTailSlopeWrongFalsely : Prop := fnExactTailSlopeRow.holds Try.pinned (OpenSpec.ofChange fnExactTailSlopeWrong)

/-- 'laws.FnExactThresholdOf': WHATEVER THE INPUT: true; the input reads as it did. -/
def fnExactThresholdOfSpec : ChangeSpec := { name := "fnExactThresholdOf", fn := fun _ => fun
  | [d1, d2, d3] => { results := [.lit (.bool true)], args := [d1, d2, d3] }
  | _ => none }
def fnExactThresholdOfRow : OpenClaim := { program := "ytnhcmloaanamnaa", sum := "06c4ff07dbcebc7c4a47f708b4475cd9b810494a5b13d83ae9314f49ad665f86", func := "loop.example/g01318/laws.FnExactThresholdOf", spec := "fnExactThresholdOf", inPlace := ["math.Float64bits", "math.Float64frombits"], unfollowed := true, recurses := true, apart := false }
def FnExactThresholdOfSaid : Prop := fnExactThresholdOfRow.holds Try.pinned (OpenSpec.ofChange fnExactThresholdOfSpec)

/-- ITS FALSE NEIGHBOUR: 'it returns false'. Refute it at one input. -/
def fnExactThresholdOfWrong : ChangeSpec := { name := "fnExactThresholdOf", fn := fun _ => fun
  | [d1, d2, d3] => { results := [.lit (.bool false)], args := [d1, d2, d3] }
  | _ => none }
def FnExactThresholdOfWrongFalsely : Prop := fnExactThresholdOfRow.holds Try.pinned (OpenSpec.ofChange fnExactThresholdOfWrong)

/-- 'laws.FnExactSpectrumLine': WHATEVER THE INPUT: true; the input reads as it did. -/
def fnExactSpectrumLineSpec : ChangeSpec := { name := "fnExactSpectrumLine", fn := fun _ => fun
  | [d1, d2, d3] => { results := [.lit (.bool true)], args := [d1, d2, d3] }
  | _ => none }
def fnExactSpectrumLineRow : OpenClaim := { program := "ytnhcmloaanamnaa", sum := "06c4ff07dbcebc7c4a47f708b4475cd9b810494a5b13d83ae9314f49ad665f86", func := "loop.example/g01318/laws.FnExactSpectrumLine", spec := "fnExactSpectrumLine", inPlace := ["math.Float64frombits", "math.Float64bits", "math.Float32frombits"], apart := false }
def FnExactSpectrumLineSaid : Prop := fnExactSpectrumLineRow.holds Try.pinned (OpenSpec.ofChange fnExactSpectrumLineSpec)

/-- ITS FALSE NEIGHBOUR: 'it returns false'. Refute it at one input. -/
def fnExactSpectrumLineWrong : ChangeSpec := { name := "fnExactSpectrumLine", fn := fun _ => fun
  | [d1, d2, d3] => { results := [.lit (.bool false)], args := [d1, d2, d3] }
  | _ => none }
def FnExactSpectrumLineWrongFalsely : Prop := fnExactSpectrumLineRow.holds Try.pinned (OpenSpec.ofChange fnExactSpectrumLineWrong)

/-- 'laws.FnExactDiamondSheet': WHATEVER THE INPUT: true; the input reads as it did. -/
def fnExactDiamondSheetSpec : ChangeSpec := { name := "fnExactDiamondSheet", fn := fun _ => fun
  | [d1, d2, d3, d4, d5] => { results := [.lit (.bool true)], args := [d1, d2, d3, d4, d5] }
  | _ => none }
def fnExactDiamondSheetRow : OpenClaim := { program := "ytnhcmloaanamnaa", sum := "06c4ff07dbcebc7c4a47f708b4475cd9b810494a5b13d83ae9314f49ad665f86", func := "loop.example/g01318/laws.FnExactDiamondSheet", spec := "fnExactDiamondSheet", inPlace := ["math.Float64bits", "math.Float64frombits"], unfollowed := true, recurses := true, apart := false }
def FnExactDiamondSheetSaid : Prop := fnExactDiamondSheetRow.holds Try.pinned (OpenSpec.ofChange fnExactDiamondSheetSpec)

/-- ITS FALSE NEIGHBOUR: 'it returns false'. Refute it at one input. -/
def fnExactDiamondSheetWrong : ChangeSpec := { name := "fnExactDiamondSheet", fn := fun _ => fun
  | [d1, d2, d3, d4, d5] => { results := [.lit (.bool false)], args := [d1, d2, d3, d4, d5] }
  | _ => none }
def FnExactDiamondSheetWrongFalsely : Prop := fnExactDiamondSheetRow.holds Try.pinned (OpenSpec.ofChange fnExactDiamondSheetWrong)

/- THE SECOND FORM. 'bulk': how many values and letters a reading holds, each counted each time it is reached (what is shared counts as often as it is met; a slice's spare places count too). A statement '..UptoSaid' is the law's where the arguments, and the package variables that the reading takes, are together of bulk at most 1048576: NARROWER than '..Said'. Prove '..Said' where nothing that the law and all that it calls make is longer than what came in: it says more and counts as full. Else prove '..UptoSaid'. A law counts once. -/
mutual
def uptoBulk {H : Type} : DataW H → Nat
  | .lit (.string bytes) => bytes.length + 1
  | .lit _ => 1
  | .nil => 1
  | .ptr d => uptoBulk d + 1
  | .slice elems spare => uptoBulkAll elems + uptoBulkAll spare + 1
  | .agg parts => uptoBulkAll parts + 1
  | .iface _ d => uptoBulk d + 1
  | .map entries => uptoBulkEntries entries + 1
  | .held _ => 1
def uptoBulkAll {H : Type} : List (DataW H) → Nat
  | [] => 0
  | d :: r => uptoBulk d + uptoBulkAll r
def uptoBulkEntries {H : Type} : List (Lit × DataW H) → Nat
  | [] => 0
  | x :: r => uptoBulkEntry x + uptoBulkEntries r
def uptoBulkEntry {H : Type} : Lit × DataW H → Nat
  | (.string bytes, d) => bytes.length + uptoBulk d + 1
  | (_, d) => uptoBulk d + 1
 end
def uptoSmall : (H : Type) → List (DataW H) → Bool := fun _ ds => decide (uptoBulkAll ds ≤ 1048576)
def OpenSpec.upto (s : _root_.Go.ChangeSpec) : _root_.Go.OpenSpec := { _root_.Go.OpenSpec.ofChange s with cond := some uptoSmall }

/-- 'laws.FnExactRankOf', WHERE WHAT IT READS IS OF BULK AT MOST 1048576: true; the input reads as it did. -/
def fnExactRankOfUptoRow : OpenClaim := { program := "ytnhcmloaanamnaa", sum := "06c4ff07dbcebc7c4a47f708b4475cd9b810494a5b13d83ae9314f49ad665f86", func := "loop.example/g01318/laws.FnExactRankOf", spec := "fnExactRankOf", inPlace := ["math.Float64bits", "math.Float64frombits"], unfollowed := true, recurses := true, apart := false, narrowed := true }
def FnExactRankOfUptoSaid : Prop := fnExactRankOfUptoRow.holds Try.pinned (OpenSpec.upto fnExactRankOfSpec)

/-- 'laws.FnExactGapsOf', WHERE WHAT IT READS IS OF BULK AT MOST 1048576: true; the input reads as it did. -/
def fnExactGapsOfUptoRow : OpenClaim := { program := "ytnhcmloaanamnaa", sum := "06c4ff07dbcebc7c4a47f708b4475cd9b810494a5b13d83ae9314f49ad665f86", func := "loop.example/g01318/laws.FnExactGapsOf", spec := "fnExactGapsOf", inPlace := ["math.Float64bits", "math.Float64frombits"], unfollowed := true, recurses := true, apart := false, narrowed := true }
def FnExactGapsOfUptoSaid : Prop := fnExactGapsOfUptoRow.holds Try.pinned (OpenSpec.upto fnExactGapsOfSpec)

/-- 'laws.FnExactTailSlope', WHERE WHAT IT READS IS OF BULK AT MOST 1048576: true; the input reads as it did. -/
def fnExactTailSlopeUptoRow : OpenClaim := { program := "ytnhcmloaanamnaa", sum := "06c4ff07dbcebc7c4a47f708b4475cd9b810494a5b13d83ae9314f49ad665f86", func := "loop.example/g01318/laws.FnExactTailSlope", spec := "fnExactTailSlope", inPlace := ["math.Float64frombits", "math.Float64bits", "math.Float32frombits"], unfollowed := true, recurses := true, apart := false, narrowed := true }
def FnExactTailSlopeUptoSaid : Prop := fnExactTailSlopeUptoRow.holds Try.pinned (OpenSpec.upto fnExactTailSlopeSpec)

/-- 'laws.FnExactThresholdOf', WHERE WHAT IT READS IS OF BULK AT MOST 1048576: true; the input reads as it did. -/
def fnExactThresholdOfUptoRow : OpenClaim := { program := "ytnhcmloaanamnaa", sum := "06c4ff07dbcebc7c4a47f708b4475cd9b810494a5b13d83ae9314f49ad665f86", func := "loop.example/g01318/laws.FnExactThresholdOf", spec := "fnExactThresholdOf", inPlace := ["math.Float64bits", "math.Float64frombits"], unfollowed := true, recurses := true, apart := false, narrowed := true }
def FnExactThresholdOfUptoSaid : Prop := fnExactThresholdOfUptoRow.holds Try.pinned (OpenSpec.upto fnExactThresholdOfSpec)

/-- 'laws.FnExactSpectrumLine', WHERE WHAT IT READS IS OF BULK AT MOST 1048576: true; the input reads as it did. -/
def fnExactSpectrumLineUptoRow : OpenClaim := { program := "ytnhcmloaanamnaa", sum := "06c4ff07dbcebc7c4a47f708b4475cd9b810494a5b13d83ae9314f49ad665f86", func := "loop.example/g01318/laws.FnExactSpectrumLine", spec := "fnExactSpectrumLine", inPlace := ["math.Float64frombits", "math.Float64bits", "math.Float32frombits"], apart := false, narrowed := true }
def FnExactSpectrumLineUptoSaid : Prop := fnExactSpectrumLineUptoRow.holds Try.pinned (OpenSpec.upto fnExactSpectrumLineSpec)

/-- 'laws.FnExactDiamondSheet', WHERE WHAT IT READS IS OF BULK AT MOST 1048576: true; the input reads as it did. -/
def fnExactDiamondSheetUptoRow : OpenClaim := { program := "ytnhcmloaanamnaa", sum := "06c4ff07dbcebc7c4a47f708b4475cd9b810494a5b13d83ae9314f49ad665f86", func := "loop.example/g01318/laws.FnExactDiamondSheet", spec := "fnExactDiamondSheet", inPlace := ["math.Float64bits", "math.Float64frombits"], unfollowed := true, recurses := true, apart := false, narrowed := true }
def FnExactDiamondSheetUptoSaid : Prop := fnExactDiamondSheetUptoRow.holds Try.pinned (OpenSpec.upto fnExactDiamondSheetSpec)

end Rows
end Go.Proofs.Ytnhcmloaanamnaa
