/-
  What is proved here: the table of tenths, some rows. Conditions: none. Own text; no dump.
-/
import Derived.Test.YtebijgjdeofalaaTab
namespace Go.Proofs.Ytebijgjdeofalaa
namespace Flt
theorem tab7705 : allR rowB 7705 674 = true := by kernel_rfl
theorem tab8379 : allR rowB 8379 693 = true := by kernel_rfl
theorem tab9072 : allR rowB 9072 720 = true := by kernel_rfl
theorem tab9792 : allR rowB 9792 717 = true := by kernel_rfl
theorem tab10509 : allR rowB 10509 744 = true := by kernel_rfl

end Flt
end Go.Proofs.Ytebijgjdeofalaa
