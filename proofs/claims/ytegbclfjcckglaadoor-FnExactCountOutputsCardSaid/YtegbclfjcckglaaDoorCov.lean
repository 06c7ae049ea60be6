/-
  What is proved here: the program's two errors, as the row lists them, give what a walk asks. Conditions: none.
-/
import Derived.Test.YtegbclfjcckglaaDoorCoi
import Derived.Test.YtegbclfjcckglaaDoorLaidB
namespace Go.Proofs.YtegbclfjcckglaaDoor
open Go.RowKit

theorem gNo : Tryd.prog.globalNamed "loop.example/g01318/impl.errNo" = some 0 := by kernel_rfl
theorem gWh : Tryd.prog.globalNamed "loop.example/g01318/impl.errWhat" = some 1 := by kernel_rfl
theorem tNo : (Tryd.prog.globals[0]?).map (·.type) = some 100 := by kernel_rfl
theorem tWh : (Tryd.prog.globals[1]?).map (·.type) = some 100 := by kernel_rfl

theorem errIs {W : World} {rest : List (String × DataW Unit)} (h : laidMet Tryd.prog (("loop.example/g01318/impl.errNo", Rows.laid_loop_example_g01318_impl_errNo) :: ("loop.example/g01318/impl.errWhat", Rows.laid_loop_example_g01318_impl_errWhat) :: rest) W) : ErrV W := by
  obtain ⟨a, s, h1, h2, h3, _⟩ := laid_sentinel h gNo tNo Tryd.underlying100 rowErr Tryd.underlying207 Tryd.underlying209 rfl rfl Tryd.underlying9 (by kernel_rfl) (by kernel_rfl)
  obtain ⟨b, t, k1, k2, k3, _⟩ := laid_sentinel h.tail gWh tWh Tryd.underlying100 rowErr Tryd.underlying207 Tryd.underlying209 rfl rfl Tryd.underlying9 (by kernel_rfl) (by kernel_rfl)
  obtain rfl : s = ⟨#[110, 111]⟩ := ba_extJ h3
  obtain rfl : t = ⟨#[119, 104, 97, 116]⟩ := ba_extJ k3
  exact ⟨⟨a, by simpa using World.var?_cell gNo h1 0, h2⟩, b, by simpa using World.var?_cell gWh k1 0, k2⟩

end Go.Proofs.YtegbclfjcckglaaDoor
