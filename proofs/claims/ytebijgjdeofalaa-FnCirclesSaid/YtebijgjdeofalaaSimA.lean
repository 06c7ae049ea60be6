/-
  What is proved here: the laws SameNumber, IsFinite, BitsOf and FromBits as walks, whatever is drawn. Conditions: words fit their kinds.
-/
import Derived.Test.YtebijgjdeofalaaNum
namespace Go.Proofs.Ytebijgjdeofalaa
open Flt


theorem specSame (a b : Nat) (ha : WF .f32 a) (hb : WF .f32 b) (w : World) :
    Calls Try.prog 23 #[.float .f32 a, .float .f32 b] w fun e w' => e = .returned (.bool (bitsV a == bitsV b)) ∧ ∃ n, w' = w.drewN n := by
  go_enter Try.func23, Try.ntmps23
  go_wp2_with (first | (go_at_call 54; refine (specBits _ (by assumption) _).mono ?_; rintro e w' ⟨rfl, rfl⟩) | go_in)
  go_ret
  exact ⟨rfl, 0, rfl⟩









end Go.Proofs.Ytebijgjdeofalaa
