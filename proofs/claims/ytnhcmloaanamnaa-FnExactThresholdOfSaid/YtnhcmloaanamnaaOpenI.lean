/-
  What is proved here: how a list of integers that came in is read. Conditions: the list is one that a machine can hold.
-/
import Derived.Test.YtnhcmloaanamnaaInts
import Derived.ProofKit
namespace Go.Proofs.Ytnhcmloaanamnaa
open Go.RowKit Go.ChangeShapes Go.WideShapes

/-- what is known of a list that came in -/
structure ListI (w : World) (A : Option Addr) (len : Nat) (zs : List Int) : Prop where
  size : zs.length = len
  row : RowI w w.heap.size A zs
  small : len ≤ maxLen

theorem open_i64s {H : Type} {enc : TypeId × Value → H} {P : Program} {w : World} {spare : Nat → Bool} {held : Bool} {t e : TypeId} {A : Option Addr} {len cap : Nat} {d : DataW H} {ps : List MemPlace} (ht : P.underlying t = some (.slice e)) (he : P.underlying e = some (.int .i64)) (hc : P.cellsOf e = 1)
    (h : DataW.Trod enc P w 0 spare held t (.slice A len cap) d ps) : ∃ zs, ListI w A len zs := by
  obtain ⟨fuel, hf⟩ := h
  rcases Go.ChangeShapes.open_ints ht he hc hf with ⟨hcs, _⟩ | ⟨a, l, c, zs, hcs, _, hl, hm, hz, _, hx, _⟩
  · simp [Value.cells] at hcs
    obtain ⟨rfl, rfl, rfl⟩ := hcs
    exact ⟨[], rfl, fun h => by simp at h, by unfold maxLen; omega⟩
  · simp [Value.cells] at hcs
    obtain ⟨rfl, rfl, rfl⟩ := hcs
    have hlz : len ≤ zs.length := by rw [hz]; split <;> omega
    refine ⟨zs.take len, by simp [hlz], ?_, by omega⟩
    intro h0
    have hlen : 0 < len := by simp at h0; omega
    obtain ⟨b, off, spot⟩ := a
    have hspot : spot = none := by
      have := hx 0 (by omega)
      simpa [Addr.add] using World.cell?_spot this
    subst hspot
    refine ⟨b, off, rfl, ?_, fun j hj => ?_⟩
    · have h1 := hx 0 (by omega)
      rcases Nat.lt_or_ge b w.heap.size with hb | hb
      · exact hb
      · exfalso
        simp [World.cell?, Addr.add, Array.getElem?_eq_none hb] at h1
    · have hj' : j < len := by simp at hj; omega
      have h1 := hx j (by omega)
      rw [Go.WideShapes.add_plain] at h1
      rw [h1]
      simp [atI, List.getD, hj']


end Go.Proofs.Ytnhcmloaanamnaa
