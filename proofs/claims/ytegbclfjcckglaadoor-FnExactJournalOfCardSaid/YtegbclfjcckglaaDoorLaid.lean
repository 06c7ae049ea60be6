/-
  What is proved here: what the listed variables give a walk. Conditions: none.
-/
import Derived.Test.YtegbclfjcckglaaDoorDecB
import Derived.Test.YtegbclfjcckglaaDoorRows
import Derived.Stop.LaidErr
namespace Go.Proofs.YtegbclfjcckglaaDoor
open Go.RowKit

theorem tPow : (Tryd.prog.globals[6]?).map (·.type) = some 203 := by kernel_rfl
theorem powIs {W : World} {rest : List (String × DataW Unit)} (h : laidMet Tryd.prog (("internal/strconv.uint64pow10", Rows.laid_internal_strconv_uint64pow10) :: rest) W) : Pow W :=
  Lib.tabIs_of_head (t := 203) (e := 176) (n := 20) gPow tPow (by kernel_rfl) (by kernel_rfl) (by kernel_rfl) (by kernel_rfl) h

end Go.Proofs.YtegbclfjcckglaaDoor
