/-
  What is proved here: two complex numbers that are the same, for the law; both contracts of MiddleOf, with its middle widened. Conditions: at most 1048576 cells.
-/
import Derived.Test.YtgiblioilpedfaaMdo
namespace Go.Proofs.Ytgiblioilpedfaa
open Flt Go.RowKit
set_option linter.unusedVariables false

theorem sameC (a b c d : Nat) (h1 : can .f64 a = can .f64 c) (h2 : can .f64 b = can .f64 d) (w : World) :
    Calls Try.prog 35 #[.complex .f64 a b, .complex .f64 c d] w fun e w' => e = .returned (.bool true) ∧ ∃ n, w' = w.drewN n := by
  have H1 := Lib.hid h1
  have H2 := Lib.hid h2
  clear h1 h2
  go_enter Try.func35, Try.ntmps35
  go_wp2_with (first | (go_at_call 36; ((with_reducible refine (sameFloat_any a c H1.out _).mono ?_); rintro e w' ⟨rfl, n, rfl⟩)) | (go_at_call 36; ((with_reducible refine (sameFloat_any b d H2.out _).mono ?_); rintro e w' ⟨rfl, n, rfl⟩)))
  go_ret
  exact ⟨rfl, _, rfl⟩

theorem midBoth2 (x y : Int) (n : Nat) (p : Nat → Bool) (hn : n ≤ 1048576) : ∃ (cx cy : Nat) (gv : Option Nat) (b : Bool) (X Y : Nat), (∀ W, (convert 51 55 (.complex .f32 cx cy)).run Try.prog W = .ok (.complex .f64 X Y) W) ∧
    (∀ (W : World) (A : Option Addr) (c : Nat), RowV W W.heap.size A n (bo p) → Calls Try.prog 33 #[.agg #[.int .i64 x, .int .i64 y, .slice A n c]] W (MdPost cx cy gv b W)) ∧
    (∀ (W : World) (A : Option Addr) (c : Nat), RowV W W.heap.size A n (bo p) → Calls Try.prog 34 #[.agg #[.int .i64 x, .int .i64 y, .slice A n c]] W (MdPost cx cy gv b W)) := by
  obtain ⟨cx, cy, gv, b, ⟨X, hX⟩, ⟨Y, hY⟩, h⟩ := midBoth x y n p hn
  exact ⟨cx, cy, gv, b, X, Y, fun W => run_convert_complex W 51 55 .f32 .f64 cx cy X Y (by kernel_rfl) (by kernel_rfl) (by unfold cConvBits; rw [hX, hY]; rfl), h⟩

end Go.Proofs.Ytgiblioilpedfaa
