/-
  What is proved here: the law SumNumbers as a walk, whatever is drawn. Conditions: the list is one that a machine can hold.
-/
import Derived.Test.YtegbclfjcckglaaDoorRow
namespace Go.Proofs.YtegbclfjcckglaaDoor
open Flt Go.RowKit

/-- the sum from left to right -/
def sumF (l : List Nat) : Option Nat := l.foldl (fun a z => fop .add .f32 a (can .f32 z)) (can .f32 0)

theorem sum_step (zs : List Nat) (k : Nat) (h : k < zs.length) : sumF (zs.take (k + 1)) = fop .add .f32 (sumF (zs.take k)) (can .f32 (at0 zs k)) := by
  unfold sumF at0
  rw [List.take_succ_eq_append_getElem h, List.foldl_append]
  simp [List.getD, h]


theorem few_any (A : Option Addr) (n c : Nat) (hn : n ≤ 1048576) (w : World) :
    Calls Tryd.prog 88 #[.slice A n c] w fun e w' => e = .returned (.bool (decide (n ≤ 256))) ∧ w = w' := by
  by_cases h : n ≤ 256
  · go_enter Tryd.func88, Tryd.ntmps88
    go_wp2
    go_ret
    exact ⟨by simp [h]; omega, rfl⟩
  · go_enter Tryd.func88, Tryd.ntmps88
    go_wp2
    go_ret
    exact ⟨by simp [h]; omega, rfl⟩

/-- what a function of lists gives: a word, and whether it has one -/
def SPost (c : Option Nat) (b : Bool) (w : World) (e : Ending) (w' : World) : Prop := ∃ g n, e = .returned (.tuple #[.float .f32 g, .bool b]) ∧ w' = w.drewN n ∧ Hid (can .f32 g = c)



end Go.Proofs.YtegbclfjcckglaaDoor
