/-
  What is proved here: DropOn, of both packages: one answer. Conditions: at most 1048576 heights.
-/
import Derived.Test.YtckhdbnoihieeaaDro
import Derived.Test.YtckhdbnoihieeaaDrq
namespace Go.Proofs.Ytckhdbnoihieeaa
open Flt Go.RowKit

theorem droBoth (x y px py steps : Int) (zs : List Nat) (tk lv : Nat) (hn : zs.length ≤ 1048576) : ∃ p q ys s b, ys.length ≤ 1048576 ∧ (∀ W A c, RowF W W.heap.size A zs → Calls Try.prog 21 #[.agg #[.int .i64 x, .int .i64 y, .slice A zs.length c], .int .i64 px, .int .i64 py, .int .i64 steps, .float .f32 tk, .float .f32 lv] W (TPostN p q ys s b W)) ∧ (∀ W A c, RowF W W.heap.size A zs → Calls Try.prog 22 #[.agg #[.int .i64 x, .int .i64 y, .slice A zs.length c], .int .i64 px, .int .i64 py, .int .i64 steps, .float .f32 tk, .float .f32 lv] W (TPostN p q ys s b W)) := by
  refine ⟨_, _, _, _, _, ?_, fun W A c hr => specDro x y px py steps A c zs tk lv W hr hn, fun W A c hr => implDro x y px py steps A c zs tk lv W hr hn⟩
  unfold gY
  split
  · rw [toldY_length]; exact hn
  · exact Nat.zero_le _

end Go.Proofs.Ytckhdbnoihieeaa
