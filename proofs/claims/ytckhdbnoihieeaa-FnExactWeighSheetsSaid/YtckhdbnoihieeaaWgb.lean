/-
  What is proved here: WeighSheets, of both packages: one answer. Conditions: at most 1048576 heights each.
-/
import Derived.Test.YtckhdbnoihieeaaWgs
namespace Go.Proofs.Ytckhdbnoihieeaa
open Flt Go.RowKit

theorem wghBoth (x0 y0 : Int) (zs0 : List Nat) (x1 y1 : Int) (zs1 : List Nat) (u v : Nat) (hn0 : zs0.length ≤ 1048576) (hn1 : zs1.length ≤ 1048576) :
    ∃ b fx fy ys, ys.length ≤ 1048576 ∧ (∀ (W : World) (A : Option Addr) (c : Nat) (B : Option Addr) (d : Nat), RowF W W.heap.size A zs0 → RowF W W.heap.size B zs1 → Calls Try.prog 12 #[.agg #[.int .i64 x0, .int .i64 y0, .slice A zs0.length c], .agg #[.int .i64 x1, .int .i64 y1, .slice B zs1.length d], .float .f32 u, .float .f32 v] W (TPost fx fy ys b W)) ∧
      ∀ (W : World) (A : Option Addr) (c : Nat) (B : Option Addr) (d : Nat), RowF W W.heap.size A zs0 → RowF W W.heap.size B zs1 → Calls Try.prog 14 #[.agg #[.int .i64 x0, .int .i64 y0, .slice A zs0.length c], .agg #[.int .i64 x1, .int .i64 y1, .slice B zs1.length d], .float .f32 u, .float .f32 v] W (TPost fx fy ys b W) := by
  refine ⟨_, _, _, _, ?_, fun W A c B d hA hB => specWgh x0 y0 x1 y1 A B c d zs0 zs1 u v W hA hB hn0 hn1, fun W A c B d hA hB => implWgh x0 y0 x1 y1 A B c d zs0 zs1 u v W hA hB hn0 hn1⟩
  unfold gY
  split
  · rw [toldY_length]; exact hn0
  · exact Nat.zero_le _

end Go.Proofs.Ytckhdbnoihieeaa
