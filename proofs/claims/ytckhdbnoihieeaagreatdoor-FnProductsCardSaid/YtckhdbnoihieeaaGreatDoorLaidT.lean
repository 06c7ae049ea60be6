/-
  What is proved here: what the library's table of trailing zeros gives a walk, once it is listed. Conditions: none.
-/
import Derived.Test.YtckhdbnoihieeaaGreatDoorHexC
import Derived.Test.YtckhdbnoihieeaaGreatDoorRows
import Derived.Stop.LaidErr
import Derived.Lib.LaidTab
namespace Go.Proofs.YtckhdbnoihieeaaGreatDoor
open Go.RowKit

def tzTab : List Int := [0, 1, 56, 2, 57, 49, 28, 3, 61, 58, 42, 50, 38, 29, 17, 4, 62, 47, 59, 36, 45, 43, 51, 22, 53, 39, 33, 30, 24, 18, 12, 5, 63, 55, 48, 27, 60, 41, 37, 16, 46, 35, 44, 21, 52, 32, 23, 11, 54, 26, 40, 15, 34, 20, 31, 10, 25, 14, 19, 9, 13, 8, 7, 6]
theorem gTz : Tryz.prog.globalNamed "math/bits.deBruijn64tab" = some 6 := by kernel_rfl
theorem tTz : (Tryz.prog.globals[6]?).map (·.type) = some 141 := by kernel_rfl
theorem dTz : (Rows.laid_math_bits_deBruijn64tab : DataW Unit) = Lib.tabData .u8 tzTab := by kernel_rfl
theorem tzIs {W : World} {rest : List (String × DataW Unit)} (h : laidMet Tryz.prog (("math/bits.deBruijn64tab", Rows.laid_math_bits_deBruijn64tab) :: rest) W) : Tz W := by
  rw [dTz] at h
  have := Lib.tabIs_of_head (t := 141) (e := 5) (n := 64) gTz tTz (by kernel_rfl) (by kernel_rfl) (by kernel_rfl) (by kernel_rfl) h
  exact this.cell gTz 15 (by decide)

end Go.Proofs.YtckhdbnoihieeaaGreatDoor
