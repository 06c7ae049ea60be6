/-
  What is proved here: TalusStep, of both packages: one answer. Conditions: at most 1048576 heights.
-/
import Derived.Test.YtckhdbnoihieeaaTai
import Derived.Test.YtckhdbnoihieeaaTas
namespace Go.Proofs.Ytckhdbnoihieeaa
open Flt Go.RowKit

theorem talBoth (x y : Int) (zs : List Nat) (st sh : Nat) (hn : zs.length ≤ 1048576) : ∃ p q ys s b, ys.length ≤ 1048576 ∧ (∀ W A c, RowF W W.heap.size A zs → Calls Try.prog 18 #[.agg #[.int .i64 x, .int .i64 y, .slice A zs.length c], .float .f32 st, .float .f32 sh] W (TPostF p q ys s b W)) ∧ (∀ W A c, RowF W W.heap.size A zs → Calls Try.prog 19 #[.agg #[.int .i64 x, .int .i64 y, .slice A zs.length c], .float .f32 st, .float .f32 sh] W (TPostF p q ys s b W)) := by
  refine ⟨_, _, _, _, _, ?_, fun W A c hr => specTal x y A c zs st sh W hr hn, fun W A c hr => implTal x y A c zs st sh W hr hn⟩
  unfold gY
  split
  · rw [toldY_length]; exact hn
  · exact Nat.zero_le _

end Go.Proofs.Ytckhdbnoihieeaa
