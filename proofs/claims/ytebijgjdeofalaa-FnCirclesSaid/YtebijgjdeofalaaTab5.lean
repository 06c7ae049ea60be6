/-
  What is proved here: the table of tenths, some rows. Conditions: none. Own text; no dump.
-/
import Derived.Test.YtebijgjdeofalaaTab
namespace Go.Proofs.Ytebijgjdeofalaa
namespace Flt
theorem tab15308 : allR rowB 15308 862 = true := by kernel_rfl
theorem tab16170 : allR rowB 16170 910 = true := by kernel_rfl
theorem tab17080 : allR rowB 17080 938 = true := by kernel_rfl
theorem tab18018 : allR rowB 18018 957 = true := by kernel_rfl
theorem tab18975 : allR rowB 18975 993 = true := by kernel_rfl

end Flt
end Go.Proofs.Ytebijgjdeofalaa
