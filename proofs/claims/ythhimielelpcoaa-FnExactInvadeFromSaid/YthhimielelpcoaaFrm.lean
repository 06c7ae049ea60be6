/-
  What is proved here: whether a 32-bit number lies between two others, of both packages, as walks. Conditions: none.
-/
import Derived.Test.YthhimielelpcoaaFlt
import Derived.Test.YthhimielelpcoaaInb
namespace Go.Proofs.Ythhimielelpcoaa
open Flt Go.RowKit
set_option linter.unusedVariables false

def geO (o : Option Ordering) : Bool := match o with | some .gt => true | some .eq => true | _ => false
def leO (o : Option Ordering) : Bool := match o with | some .lt => true | some .eq => true | _ => false
theorem ord4 (o : Option Ordering) : o = none ∨ o = some .lt ∨ o = some .eq ∨ o = some .gt := by
  rcases o with _ | o
  · exact .inl rfl
  · cases o <;> simp
def fromB (x lo hi : Nat) : Bool := geO (FloatKind.f32.format.order x lo) && leO (FloatKind.f32.format.order x hi)

end Go.Proofs.Ythhimielelpcoaa
