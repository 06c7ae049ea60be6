/-
  What is proved here: how many sides of a cell are among cells, as the program tells it, as a walk. Conditions: sides of a field, a cell of it.
-/
import Derived.Test.YtnhcmloaanamnaaSdj
namespace Go.Proofs.Ytnhcmloaanamnaa
open Go.RowKit
set_option linter.unusedVariables false

theorem GroI.cap {w : World} {G c : Nat} {L : List Int} {A : Option Addr} (h : GroI w G L A c) : L.length ≤ c := by
  rcases h.2 with ⟨h1, _⟩ | ⟨g, cap, cur, h0, hbg, hg, hnc, _⟩
  · injection h1 with e1 e2 e3
    omega
  · injection h0 with e1 e2 e3
    omega

theorem sidL_mem {x y i : Int} (hx : 1 ≤ x) (h0 : 0 ≤ i) (hi : i < x * y) : ∀ s ∈ sidL x y i, 0 ≤ s ∧ s < x * y := by
  obtain ⟨e, q0, q1, r0, r1⟩ := div_facts hx h0 hi
  have hm : x * (i / x + 1) ≤ x * y := Int.mul_le_mul_of_nonneg_left (by omega) (by omega)
  rw [Int.mul_add, Int.mul_one] at hm
  have hq : 0 ≤ x * (i / x) := Int.mul_nonneg (by omega) q0
  intro s hs
  unfold sidL at hs
  rw [List.mem_append, List.mem_append, List.mem_append] at hs
  rcases hs with ((h | h) | h) | h
  · split at h
    · rw [List.mem_singleton] at h; subst h; omega
    · cases h
  · split at h
    · rw [List.mem_singleton] at h; subst h; omega
    · cases h
  · split at h
    · rw [List.mem_singleton] at h; subst h; omega
    · cases h
  · split at h
    · rw [List.mem_singleton] at h; subst h; omega
    · cases h
theorem sidL_cells {x y i : Int} {n : Nat} (hx : 1 ≤ x) (h0 : 0 ≤ i) (hi : i < x * y) (hn : (n : Int) = x * y) : CellsL (sidL x y i) n := fun j hj => by
  have hm : atI (sidL x y i) j ∈ sidL x y i := by
    unfold atI
    rw [List.getD_eq_getElem?_getD, List.getElem?_eq_getElem hj]
    exact List.getElem_mem hj
  have := sidL_mem hx h0 hi _ hm
  rw [hn]; exact this

/-- how many sides of a cell are full -/
def fulS (p : Nat → Bool) (x y i : Int) : Nat := (kepL p (sidL x y i) (sidL x y i).length).length
theorem fulS_le (p : Nat → Bool) (x y i : Int) : fulS p x y i ≤ 4 := Nat.le_trans (kepL_le _ _ _) (sidL_len x y i)

theorem cell1_new (W : World) (v : Value) (t : TypeId) : (W.alloc (.cells #[v] t)).cell? ⟨W.heap.size, 0, none⟩ = some v := by
  simp [World.cell?, World.alloc, -World.alloc_eq]

end Go.Proofs.Ytnhcmloaanamnaa
