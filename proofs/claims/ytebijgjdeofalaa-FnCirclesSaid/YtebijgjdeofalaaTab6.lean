/-
  What is proved here: the table of tenths, some rows. Conditions: none. Own text; no dump.
-/
import Derived.Test.YtebijgjdeofalaaTab
namespace Go.Proofs.Ytebijgjdeofalaa
namespace Flt
theorem tab19968 : allR rowB 19968 1046 = true := by kernel_rfl
theorem tab21014 : allR rowB 21014 1106 = true := by kernel_rfl
theorem tab22120 : allR rowB 22120 1190 = true := by kernel_rfl
theorem tab23310 : allR rowB 23310 1303 = true := by kernel_rfl
theorem tab24613 : allR rowB 24613 1379 = true := by kernel_rfl

end Flt
end Go.Proofs.Ytebijgjdeofalaa
