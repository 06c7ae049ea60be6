/-
  What is proved here: a local variable that holds a sheet stands behind more memory. Conditions: none.
-/
import Derived.Test.YtnhcmloaanamnaaShv
namespace Go.Proofs.Ytnhcmloaanamnaa
open Flt Go.RowKit

/-- the cells of a local variable stand behind more memory -/
theorem keepT {W wa wb : World} {v : Nat} {x y : Int} {A : Option Addr} {n c : Nat} (hb : Below wa.heap.size wa wb) (h0 : wa.cell? ⟨v, 0, none⟩ = some (.int .i64 x)) (h1 : wa.cell? ⟨v, 1, none⟩ = some (.int .i64 y)) (h2 : wa.cell? ⟨v, 2, none⟩ = some (.slice A n c)) (hB : Hid (Below W.heap.size W wa)) (hx : v < W.heap.size) :
    wb.cell? ⟨v, 0, none⟩ = some (.int .i64 x) ∧ wb.cell? ⟨v, 1, none⟩ = some (.int .i64 y) ∧ wb.cell? ⟨v, 2, none⟩ = some (.slice A n c) := by
  have := Nat.lt_of_lt_of_le hx hB.out.size
  exact ⟨by rw [hb.cell (p := ⟨v, 0, none⟩) this]; exact h0, by rw [hb.cell (p := ⟨v, 1, none⟩) this]; exact h1, by rw [hb.cell (p := ⟨v, 2, none⟩) this]; exact h2⟩

end Go.Proofs.Ytnhcmloaanamnaa
