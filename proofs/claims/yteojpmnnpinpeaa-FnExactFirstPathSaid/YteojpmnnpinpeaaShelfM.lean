/-
  What is proved here: contracts of the library at this program (bits_Mul), each laid by the kit's own command out of what the library proves. Conditions: as each theorem names.
-/
import Derived.Shelf.Bits.Mul64
import Derived.Shelf.Lays
import Derived.Test.YteojpmnnpinpeaaProg
namespace Go.Proofs
open Go.Shelf
def Try.lays212_ren : Go.Shelf.Ren := ⟨fun | 212 => 173 | 263 => 238 | 264 => 239 | n => n, fun | 46 => 201 | 51 => 252 | 146 => 253 | 53 => 255 | 148 => 256 | n => n, fun | n => n⟩

theorem Try.lays212 : Go.Proofs.Lays.n212 Try.prog Try.lays212_ren := {
  mixed := by kernel_rfl
  f212 := Try.func173.trans (congrArg some (by kernel_rfl))
  f263 := Try.func238.trans (congrArg some (by kernel_rfl))
  f264 := Try.func239.trans (congrArg some (by kernel_rfl))
  t46 := Try.underlying201
  a46 := Try.isAgg201
  z46 := Try.sizeOf201
  v46 := Try.zeroValue201
  t51 := Try.underlying252
  a51 := Try.isAgg252
  z51 := Try.sizeOf252
  v51 := Try.zeroValue252
  t53 := Try.underlying255
  a53 := Try.isAgg255
  z53 := Try.sizeOf255
  v53 := Try.zeroValue255
  t146 := Try.underlying253
  a146 := Try.isAgg253
  z146 := Try.sizeOf253
  v146 := Try.zeroValue253
  t148 := Try.underlying256
  a148 := Try.isAgg256
  z148 := Try.sizeOf256
  v148 := Try.zeroValue256 }

open Go.RowKit Go.Lib in
/-- math/bits.Mul: "Mul returns the full-width product of x and y": on a machine of 64 bits: Mul64's. (LAID: no walk: one application.) -/
theorem Try.bits_Mul (x y : Nat) (hx : x < 18446744073709551616) (hy : y < 18446744073709551616) (w : World) :
    Calls Try.prog 173 #[.int .u64 x, .int .u64 y] w fun e w' => e = .returned (.tuple #[.int .u64 ((x * y / 18446744073709551616 : Nat) : Int), .int .u64 ((x * y % 18446744073709551616 : Nat) : Int)]) ∧ w' = w := Any.bits_Mul Try.lays212 x y hx hy w
end Go.Proofs
