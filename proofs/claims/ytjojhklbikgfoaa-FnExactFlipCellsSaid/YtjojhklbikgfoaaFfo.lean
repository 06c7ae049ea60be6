/-
  What is proved here: FlipCells of the reference, where the numbers are no cells, and of both, as a walk. Conditions: at most 1048576 cells and numbers.
-/
import Derived.Test.YtjojhklbikgfoaaFfm
import Derived.Test.YtjojhklbikgfoaaFfn
namespace Go.Proofs.Ytjojhklbikgfoaa
open Go.RowKit
attribute [local go_sem] run_store_bool
set_option linter.unusedVariables false

theorem flpBoth (x y : Int) (n : Nat) (p : Nat → Bool) (z : List Int) (hn : n ≤ 1048576) (hz : z.length ≤ 1048576) : ∃ (b : Bool) (fx fy : Int) (fn : Nat) (ff : Nat → Bool), fn ≤ 1048576 ∧
    (∀ (W : World) (A : Option Addr) (c : Nat) (Z : Option Addr) (d : Nat), RowV W W.heap.size A n (bo p) → RowV W W.heap.size Z z.length (iv (atI z)) → Calls Try.prog 15 #[.agg #[.int .i64 x, .int .i64 y, .slice A n c], .slice Z z.length d] W fun e w' => ∃ A' c', e = .returned (.tuple #[.agg #[.int .i64 fx, .int .i64 fy, .slice A' fn c'], .bool b]) ∧ Hid (RowW w' W.heap.size w'.heap.size A' fn (bo ff)) ∧ Hid (Below W.heap.size W w')) ∧
    (∀ (W : World) (A : Option Addr) (c : Nat) (Z : Option Addr) (d : Nat), RowV W W.heap.size A n (bo p) → RowV W W.heap.size Z z.length (iv (atI z)) → Calls Try.prog 18 #[.agg #[.int .i64 x, .int .i64 y, .slice A n c], .slice Z z.length d] W fun e w' => ∃ A' c', e = .returned (.tuple #[.agg #[.int .i64 fx, .int .i64 fy, .slice A' fn c'], .bool b]) ∧ Hid (RowW w' W.heap.size w'.heap.size A' fn (bo ff)) ∧ Hid (Below W.heap.size W w')) := by
  cases hv : fvB x y n with
  | false => exact ⟨false, 0, 0, 0, fun _ => false, by omega, fun W A c Z d hr hq => specFlNo1 x y A n c p Z d z W hr hq hn hz hv, fun W A c Z d hr hq => implFlNo1 x y A n c p Z d z W hr hq hn hz hv⟩
  | true =>
    cases hs : setB z n with
    | false => exact ⟨false, 0, 0, 0, fun _ => false, by omega, fun W A c Z d hr hq => specFlNo2 x y A n c p Z d z W hr hq hn hz hv hs, fun W A c Z d hr hq => implFlNo2 x y A n c p Z d z W hr hq hn hz hv hs⟩
    | true => exact ⟨true, x, y, n, flF p z z.length, hn, fun W A c Z d hr hq => specFl x y A n c p Z d z W hr hq hn hz hv hs, fun W A c Z d hr hq => implFl x y A n c p Z d z W hr hq hn hz hv hs⟩

end Go.Proofs.Ytjojhklbikgfoaa
