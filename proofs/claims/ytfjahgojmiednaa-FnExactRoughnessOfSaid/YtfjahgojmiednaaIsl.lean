/-
  What is proved here: whether a list is one, of both packages, as walks. Conditions: at most 1048576 numbers.
-/
import Derived.Test.YtfjahgojmiednaaLk
namespace Go.Proofs.Ytfjahgojmiednaa
open Flt Go.RowKit
set_option linter.unusedVariables false

/-- few finite numbers -/
def lisB (zs : List Nat) : Bool := decide (zs.length ≤ 256) && finAll zs
theorem lisB_yes {zs : List Nat} (h : lisB zs = true) : zs.length ≤ 256 ∧ finAll zs = true := by
  unfold lisB at h
  rw [Bool.and_eq_true] at h
  exact ⟨of_decide_eq_true h.1, h.2⟩



end Go.Proofs.Ytfjahgojmiednaa
