/-
  What is proved here: comparisons of grammars, of both packages, as walks. Conditions: at most 1048576 rules.
-/
import Derived.Test.YtckhdbnoihieeaaKoc
namespace Go.Proofs.Ytckhdbnoihieeaa
open Go.RowKit

/-- grammars that are the same -/
def sameB (s1 : ByteArray) (r1 : List ByteArray) (s2 : ByteArray) (r2 : List ByteArray) : Bool := decide (s1 = s2) && decide (r1 = r2)
theorem sameB_yes {s1 s2 : ByteArray} {r1 r2 : List ByteArray} (h1 : s1 = s2) (h2 : r1 = r2) : sameB s1 r1 s2 r2 = true := by unfold sameB; rw [decide_eq_true h1, decide_eq_true h2]; rfl
theorem sameB_no1 {s1 s2 : ByteArray} {r1 r2 : List ByteArray} (h1 : s1 ≠ s2) : sameB s1 r1 s2 r2 = false := by unfold sameB; rw [decide_eq_false h1]; rfl
theorem sameB_no2 {s1 s2 : ByteArray} {r1 r2 : List ByteArray} (h2 : r1 ≠ r2) : sameB s1 r1 s2 r2 = false := by unfold sameB; rw [decide_eq_false h2, Bool.and_false]

theorem text_ne {a b : ByteArray} (h : a ≠ b) : (a.toList == b.toList) = false := by
  rw [beq_eq_false_iff_ne]
  intro g
  apply h
  have : a.data.toList = b.data.toList := by rw [← ByteArray.toList_eq, ← ByteArray.toList_eq]; exact g
  exact ByteArray.ext (Array.toList_inj.1 this)





end Go.Proofs.Ytckhdbnoihieeaa
