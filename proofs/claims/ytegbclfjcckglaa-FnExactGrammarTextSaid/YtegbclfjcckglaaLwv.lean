/-
  What is proved here: the law ValidGrammar, as a walk. Conditions: the grammar is one that a machine can hold.
-/
import Derived.Test.YtegbclfjcckglaaVli
import Derived.Test.YtegbclfjcckglaaOpenG
import Derived.Deep.RegionHeld3
namespace Go.Proofs.Ytegbclfjcckglaa
open Go.RowKit

/-- the cells of a local variable stand behind more memory -/
theorem keepV {W wa wb : World} {x : Nat} {st : ByteArray} {A : Option Addr} {n c : Nat} (hb : Below wa.heap.size wa wb) (h0 : wa.cell? ⟨x, 0, none⟩ = some (.string st)) (h1 : wa.cell? ⟨x, 1, none⟩ = some (.slice A n c)) (hB : Hid (Below W.heap.size W wa)) (hx : x < W.heap.size) :
    wb.cell? ⟨x, 0, none⟩ = some (.string st) ∧ wb.cell? ⟨x, 1, none⟩ = some (.slice A n c) := by
  have := Nat.lt_of_lt_of_le hx hB.out.size
  exact ⟨by rw [hb.cell (p := ⟨x, 0, none⟩) this]; exact h0, by rw [hb.cell (p := ⟨x, 1, none⟩) this]; exact h1⟩


end Go.Proofs.Ytegbclfjcckglaa
