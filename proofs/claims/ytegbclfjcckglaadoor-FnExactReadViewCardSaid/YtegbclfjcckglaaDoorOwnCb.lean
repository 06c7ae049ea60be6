/-
  What is proved here: the law's comparison, marks and looks of rows of complex numbers, as walks. Conditions: at most 256 numbers.
-/
import Derived.Test.YtegbclfjcckglaaDoorOwnC
namespace Go.Proofs.YtegbclfjcckglaaDoor
open Flt Go.RowKit
attribute [local go_sem] run_store_complex

theorem widc_same {a r s : Nat} {c : Nat} (h1 : Hid (can .f64 r = wid (can .f32 a))) (h2 : Hid (can .f64 s = wid (can .f32 c))) (h : a = c) : can .f64 r = can .f64 s := by rw [h1.out, h2.out, h]

theorem sameC2 (a b c d : Nat) (h1 : can .f64 a = can .f64 c) (h2 : can .f64 b = can .f64 d) (w : World) :
    Calls Tryd.prog 57 #[.complex .f64 a b, .complex .f64 c d] w fun e w' => e = .returned (.bool true) ∧ ∃ n, w' = w.drewN n := by
  have H1 := Lib.hid h1
  have H2 := Lib.hid h2
  clear h1 h2
  go_enter Tryd.func57, Tryd.ntmps57
  go_wp2_with (first | (go_at_call 62; ((with_reducible refine (sameFloat_any a c H1.out _).mono ?_); rintro e w' ⟨rfl, n, rfl⟩)) | (go_at_call 62; ((with_reducible refine (sameFloat_any b d H2.out _).mono ?_); rintro e w' ⟨rfl, n, rfl⟩)))
  go_ret
  exact ⟨rfl, _, rfl⟩




end Go.Proofs.YtegbclfjcckglaaDoor
