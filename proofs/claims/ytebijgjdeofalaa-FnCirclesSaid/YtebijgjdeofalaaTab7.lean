/-
  What is proved here: the table of tenths, some rows. Conditions: none. Own text; no dump.
-/
import Derived.Test.YtebijgjdeofalaaTab
namespace Go.Proofs.Ytebijgjdeofalaa
namespace Flt
theorem tab25992 : allR rowB 25992 1515 = true := by kernel_rfl
theorem tab27507 : allR rowB 27507 1730 = true := by kernel_rfl
theorem tab29237 : allR rowB 29237 2091 = true := by kernel_rfl
theorem tab31328 : allR rowB 31328 2797 = true := by kernel_rfl
theorem tab34125 : allR rowB 34125 5876 = true := by kernel_rfl

end Flt
end Go.Proofs.Ytebijgjdeofalaa
