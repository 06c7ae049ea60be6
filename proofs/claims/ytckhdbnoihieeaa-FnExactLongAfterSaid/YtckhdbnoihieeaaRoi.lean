/-
  What is proved here: RewriteOnce of the program, as a walk. Conditions: texts of at most 1048576 letters.
-/
import Derived.Test.YtckhdbnoihieeaaRew
namespace Go.Proofs.Ytckhdbnoihieeaa
open Go.RowKit

theorem validB_all {st : ByteArray} {n : Nat} {ss : List ByteArray} (h : validB st n ss = true) : ∀ k, k < n → okAt ss k = true := by
  unfold validB at h
  simp at h
  exact fun k hk => h.2.2 ⟨k, hk⟩


end Go.Proofs.Ytckhdbnoihieeaa
