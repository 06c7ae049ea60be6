/-
  What is proved here: whether a 32-bit number lies between two others, of both packages, as walks. Conditions: none.
-/
import Derived.Test.YtcoikcdglcpmcaaFlt
import Derived.Test.YtcoikcdglcpmcaaInb
namespace Go.Proofs.Ytcoikcdglcpmcaa
open Flt Go.RowKit
set_option linter.unusedVariables false

def geO (o : Option Ordering) : Bool := match o with | some .gt => true | some .eq => true | _ => false
def leO (o : Option Ordering) : Bool := match o with | some .lt => true | some .eq => true | _ => false
theorem ord4 (o : Option Ordering) : o = none ∨ o = some .lt ∨ o = some .eq ∨ o = some .gt := by
  rcases o with _ | o
  · exact .inl rfl
  · cases o <;> simp
def fromB (x lo hi : Nat) : Bool := geO (FloatKind.f32.format.order x lo) && leO (FloatKind.f32.format.order x hi)
theorem from_any (x lo hi : Nat) (w : World) : Calls Try.prog 70 #[.float .f32 x, .float .f32 lo, .float .f32 hi] w fun e w' => e = .returned (.bool (fromB x lo hi)) ∧ w = w' := by
  have N : Hid (fromB x lo hi = (geO (FloatKind.f32.format.order x lo) && leO (FloatKind.f32.format.order x hi))) := rfl
  rcases ord4 (FloatKind.f32.format.order x lo) with h | h | h | h <;> rcases ord4 (FloatKind.f32.format.order x hi) with g | g | g | g
  all_goals
    have N2 := N.out
    rw [h, g] at N2
    have N3 := Lib.hid N2
    clear N N2
    go_enter Try.func70, Try.ntmps70
    go_wp2
    go_ret
    exact ⟨by rw [N3.out]; rfl, rfl⟩
theorem shareS_any (x : Nat) (w : World) : Calls Try.prog 67 #[.float .f32 x] w fun e w' => e = .returned (.bool (fromB x 0 1065353216)) ∧ w = w' := by
  have N : Hid (fromB x 0 1065353216 = (geO (FloatKind.f32.format.order x 0) && leO (FloatKind.f32.format.order x 1065353216))) := rfl
  rcases ord4 (FloatKind.f32.format.order x 0) with h | h | h | h <;> rcases ord4 (FloatKind.f32.format.order x 1065353216) with g | g | g | g
  all_goals
    have N2 := N.out
    rw [h, g] at N2
    have N3 := Lib.hid N2
    clear N N2
    go_enter Try.func67, Try.ntmps67
    go_wp2
    go_ret
    exact ⟨by rw [N3.out]; rfl, rfl⟩

end Go.Proofs.Ytcoikcdglcpmcaa
