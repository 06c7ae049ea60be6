/-
  What is proved here: the table of tenths, some rows. Conditions: none. Own text; no dump.
-/
import Derived.Test.YtebijgjdeofalaaTab
namespace Go.Proofs.Ytebijgjdeofalaa
namespace Flt
theorem tab4601 : allR rowB 4601 590 = true := by kernel_rfl
theorem tab5191 : allR rowB 5191 599 = true := by kernel_rfl
theorem tab5790 : allR rowB 5790 627 = true := by kernel_rfl
theorem tab6417 : allR rowB 6417 639 = true := by kernel_rfl
theorem tab7056 : allR rowB 7056 649 = true := by kernel_rfl

end Flt
end Go.Proofs.Ytebijgjdeofalaa
