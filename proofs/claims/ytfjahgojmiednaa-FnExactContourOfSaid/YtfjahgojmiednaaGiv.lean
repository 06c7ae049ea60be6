/-
  What is proved here: what is given of a sheet if it is valid, of both packages, as walks. Conditions: at most 1048576 heights.
-/
import Derived.Test.YtfjahgojmiednaaChg
namespace Go.Proofs.Ytfjahgojmiednaa
open Flt Go.RowKit

/-- cells of a variable that may be written -/
theorem keepR {W wa wb : World} {v : Nat} {a0 a1 a2 : Value} (hb : Below wa.heap.size wa wb) (h0 : wa.cell? ⟨v, 0, none⟩ = some a0) (h1 : wa.cell? ⟨v, 1, none⟩ = some a1) (h2 : wa.cell? ⟨v, 2, none⟩ = some a2) (f0 : wa.frozen? ⟨v, 0, none⟩ = false) (f1 : wa.frozen? ⟨v, 1, none⟩ = false) (f2 : wa.frozen? ⟨v, 2, none⟩ = false) (hB : Hid (Below W.heap.size W wa)) (hx : v < W.heap.size) :
    wb.cell? ⟨v, 0, none⟩ = some a0 ∧ wb.cell? ⟨v, 1, none⟩ = some a1 ∧ wb.cell? ⟨v, 2, none⟩ = some a2 ∧ wb.frozen? ⟨v, 0, none⟩ = false ∧ wb.frozen? ⟨v, 1, none⟩ = false ∧ wb.frozen? ⟨v, 2, none⟩ = false := by
  have := Nat.lt_of_lt_of_le hx hB.out.size
  exact ⟨by rw [hb.cell (p := ⟨v, 0, none⟩) this]; exact h0, by rw [hb.cell (p := ⟨v, 1, none⟩) this]; exact h1, by rw [hb.cell (p := ⟨v, 2, none⟩) this]; exact h2, by rw [hb.frozen (p := ⟨v, 0, none⟩) this]; exact f0, by rw [hb.frozen (p := ⟨v, 1, none⟩) this]; exact f1, by rw [hb.frozen (p := ⟨v, 2, none⟩) this]; exact f2⟩



end Go.Proofs.Ytfjahgojmiednaa
