/-
  What is proved here: the reference's root of a number, as a walk. Conditions: none.
-/
import Derived.Test.YtgiblioilpedfaaRoot
namespace Go.Proofs.Ytgiblioilpedfaa
open Flt Go.RowKit
set_option linter.unusedVariables false

theorem specSqrtM (x : Nat) (w : World) : Calls Try.prog 91 #[.float .f32 x] w (FPost .f32 (nar (fsqrt (wid (can .f32 x)))) w) := by
  go_enter Try.func91, Try.ntmps91
  go_wp2_with (first | ((with_reducible refine upon_sqrt ?_); intro _ _ _ _) | ((with_reducible refine upon_wid ?_ ?_ ?_); rotate_left 2; intro _ _ _ _; rotate_left 1; kernel_rfl; kernel_rfl) | ((with_reducible refine upon_nar ?_ ?_ (ok_root (by assumption) (by assumption)) ?_); rotate_left 2; intro _ _ _ _; rotate_left 1; kernel_rfl; kernel_rfl) | go_in)
  rename_i r n1 wr er s n2 ws es t n3 wt et
  go_ret
  exact fpost (by rw [et.out, es.out, er.out]) wt
/-- the root of what is told -/
def rootM (c : Option Nat) : Option Nat := nar (fsqrt (wid c))

end Go.Proofs.Ytgiblioilpedfaa
