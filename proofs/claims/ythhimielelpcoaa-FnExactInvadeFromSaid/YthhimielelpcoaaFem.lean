/-
  What is proved here: a field without full cells, of both packages, as walks. Conditions: none.
-/
import Derived.Test.YthhimielelpcoaaFva
namespace Go.Proofs.Ythhimielelpcoaa
open Go.RowKit
set_option linter.unusedVariables false

theorem made_at (w : World) (c : Array Value) (n : Nat) (z : Value) (t u : TypeId) : RowM ((w.alloc (.cells c t)).alloc (.cells (madeCells #[z] n) u)) (w.heap.size + 1) n (fun _ => z) := by
  have := rowM_new (w.alloc (.cells c t)) n z u
  rwa [show (w.alloc (.cells c t)).heap.size = w.heap.size + 1 by simp] at this



end Go.Proofs.Ythhimielelpcoaa
