/-
  What is proved here: the law's comparison of maps and of views, as walks. Conditions: none.
-/
import Derived.Test.YtegbclfjcckglaaDoorOwnCb
namespace Go.Proofs.YtegbclfjcckglaaDoor
open Flt Go.RowKit

theorem wid_samN {a r s : Nat} (h1 : Hid (can .f64 r = wid (can .f32 a))) (h2 : Hid (can .f64 s = wid (can .f32 a))) : can .f64 r = can .f64 s := by rw [h1.out, h2.out]

theorem eqMap_is (k : Int) (x y : Nat) (w : World) :
    Calls Tryd.prog 15 #[.agg #[.int .i64 k, .complex .f32 x y], .agg #[.int .i64 k, .complex .f32 x y]] w fun e w' => e = .returned (.bool true) ∧ Below w.heap.size w w' := by
  have B0 : Hid (Below w.heap.size w ((w.alloc (.cells #[.int .i64 k, .complex .f32 x y] 24)).alloc (.cells #[.int .i64 k, .complex .f32 x y] 24))) := ((Below.refl _ _).alloc (Nat.le_refl _) _).alloc (by simp) _
  go_enter Tryd.func15, Tryd.ntmps15
  go_wp2_with (first | (go_at_call 57; refine (sameC2 _ _ _ _ (widc_same (by assumption) (by assumption) rfl) (widc_same (by assumption) (by assumption) rfl) _).mono ?_; rintro e w' ⟨rfl, n2, rfl⟩) | ((with_reducible refine upon_widc ?_ ?_ ?_); rotate_left 2; intro _ _ _ _ _; rotate_left 1; kernel_rfl; kernel_rfl))
  go_ret
  exact ⟨rfl, B0.out.trans ⟨rfl, rfl, rfl, Nat.le_refl _, fun _ _ => rfl⟩⟩

set_option maxHeartbeats 1000000 in
theorem eqView_is (x y z : Nat) (k l : Int) (w : World) :
    Calls Tryd.prog 18 #[.agg #[.complex .f32 x y, .float .f32 z, .int .i64 k, .int .i64 l], .agg #[.complex .f32 x y, .float .f32 z, .int .i64 k, .int .i64 l]] w fun e w' => e = .returned (.bool true) ∧ Below w.heap.size w w' := by
  have B0 : Hid (Below w.heap.size w ((w.alloc (.cells #[.complex .f32 x y, .float .f32 z, .int .i64 k, .int .i64 l] 31)).alloc (.cells #[.complex .f32 x y, .float .f32 z, .int .i64 k, .int .i64 l] 31))) := ((Below.refl _ _).alloc (Nat.le_refl _) _).alloc (by simp) _
  go_enter Tryd.func18, Tryd.ntmps18
  go_wp2_with (first | (go_at_call 57; refine (sameC2 _ _ _ _ (widc_same (by assumption) (by assumption) rfl) (widc_same (by assumption) (by assumption) rfl) _).mono ?_; rintro e w' ⟨rfl, n2, rfl⟩) | ((with_reducible refine upon_widc ?_ ?_ ?_); rotate_left 2; intro _ _ _ _ _; rotate_left 1; kernel_rfl; kernel_rfl) | (go_at_call 62; refine (sameFloat_any _ _ (wid_samN (by assumption) (by assumption)) _).mono ?_; rintro e w' ⟨rfl, n3, rfl⟩) | ((with_reducible refine upon_wid ?_ ?_ ?_); rotate_left 2; intro _ _ _ _; rotate_left 1; kernel_rfl; kernel_rfl))
  go_ret
  exact ⟨rfl, B0.out.trans ⟨rfl, rfl, rfl, Nat.le_refl _, fun _ _ => rfl⟩⟩

end Go.Proofs.YtegbclfjcckglaaDoor
