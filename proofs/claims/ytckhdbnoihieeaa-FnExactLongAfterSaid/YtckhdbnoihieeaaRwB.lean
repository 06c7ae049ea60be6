/-
  What is proved here: RewriteOnce of the model, as a walk. Conditions: texts of at most 1048576 letters.
-/
import Derived.Test.YtckhdbnoihieeaaRwA
namespace Go.Proofs.Ytckhdbnoihieeaa
open Go.RowKit

/-- RewriteOnce: whether, and what -/
def roB (st : ByteArray) (n : Nat) (ss : List ByteArray) (t : ByteArray) : Bool := (validB st n ss && wordB t 4000) && onceB ss n t
def roT (st : ByteArray) (n : Nat) (ss : List ByteArray) (t : ByteArray) : ByteArray := if (validB st n ss && wordB t 4000) = true then onceT ss n t else ⟨#[]⟩
theorem ro_no {st : ByteArray} {n : Nat} {ss : List ByteArray} {t : ByteArray} (h : (validB st n ss && wordB t 4000) = false) : roB st n ss t = false ∧ roT st n ss t = ⟨#[]⟩ := by
  unfold roB roT; rw [h]; exact ⟨rfl, rfl⟩
theorem ro_yes {st : ByteArray} {n : Nat} {ss : List ByteArray} {t : ByteArray} (h1 : validB st n ss = true) (h2 : wordB t 4000 = true) : roB st n ss t = onceB ss n t ∧ roT st n ss t = onceT ss n t := by
  unfold roB roT; rw [h1, h2]; exact ⟨rfl, rfl⟩
theorem wordB_size {t : ByteArray} {n : Nat} (h : wordB t n = true) : t.size ≤ n := by
  unfold wordB at h; simp at h; exact h.1


end Go.Proofs.Ytckhdbnoihieeaa
