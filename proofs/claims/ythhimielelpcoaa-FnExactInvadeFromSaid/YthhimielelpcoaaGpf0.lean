/-
  What is proved here: where the integers of a row that grows lie. Conditions: none.
-/
import Derived.Test.YthhimielelpcoaaGri
namespace Go.Proofs.Ythhimielelpcoaa
open Go.RowKit

theorem GroI.adr {w : World} {G c j : Nat} {L : List Int} {A : Option Addr} (h : GroI w G L A c) (hj : j < L.length) : ∃ g, A = some ⟨g, 0, none⟩ := by
  rcases h.cases with ⟨_, _, rfl⟩ | h
  · exact absurd hj (by simp)
  · exact h
theorem GroI.at {w : World} {G c j g : Nat} {L : List Int} (h : GroI w G L (some ⟨g, 0, none⟩) c) (hj : j < L.length) : w.cell? ⟨g, j, none⟩ = some (.int .i64 (atI L j)) := by
  rw [World.ownsRow.cellAt h j (by omega), List.getElem?_map]
  simp [atI, List.getD, hj]
theorem below_oneB {G : Nat} (w : World) (o : Obj) (h : G ≤ w.heap.size) : Below G w (w.alloc o) := (Below.refl _ _).alloc h _

end Go.Proofs.Ythhimielelpcoaa
