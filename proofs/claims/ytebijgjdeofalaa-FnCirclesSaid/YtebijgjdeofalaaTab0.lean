/-
  What is proved here: the table of tenths, some rows. Conditions: none. Own text; no dump.
-/
import Derived.Test.YtebijgjdeofalaaTab
namespace Go.Proofs.Ytebijgjdeofalaa
namespace Flt
theorem tab1 : allR rowB 1 295 = true := by kernel_rfl
theorem tab296 : allR rowB 296 356 = true := by kernel_rfl
theorem tab652 : allR rowB 652 405 = true := by kernel_rfl
theorem tab1057 : allR rowB 1057 438 = true := by kernel_rfl
theorem tab1495 : allR rowB 1495 462 = true := by kernel_rfl

end Flt
end Go.Proofs.Ytebijgjdeofalaa
