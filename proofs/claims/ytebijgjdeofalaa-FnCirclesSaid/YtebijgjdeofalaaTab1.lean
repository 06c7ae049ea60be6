/-
  What is proved here: the table of tenths, some rows. Conditions: none. Own text; no dump.
-/
import Derived.Test.YtebijgjdeofalaaTab
namespace Go.Proofs.Ytebijgjdeofalaa
namespace Flt
theorem tab1957 : allR rowB 1957 487 = true := by kernel_rfl
theorem tab2444 : allR rowB 2444 506 = true := by kernel_rfl
theorem tab2950 : allR rowB 2950 531 = true := by kernel_rfl
theorem tab3481 : allR rowB 3481 551 = true := by kernel_rfl
theorem tab4032 : allR rowB 4032 569 = true := by kernel_rfl

end Flt
end Go.Proofs.Ytebijgjdeofalaa
