/-
  What is proved here: the table of tenths, some rows. Conditions: none. Own text; no dump.
-/
import Derived.Test.YtebijgjdeofalaaTab
namespace Go.Proofs.Ytebijgjdeofalaa
namespace Flt
theorem tab11253 : allR rowB 11253 775 = true := by kernel_rfl
theorem tab12028 : allR rowB 12028 777 = true := by kernel_rfl
theorem tab12805 : allR rowB 12805 811 = true := by kernel_rfl
theorem tab13616 : allR rowB 13616 828 = true := by kernel_rfl
theorem tab14444 : allR rowB 14444 864 = true := by kernel_rfl

end Flt
end Go.Proofs.Ytebijgjdeofalaa
