/-
  What is proved here: the law SumNumbers as a walk, whatever is drawn; how a list of 32-bit numbers that came in is read. Conditions: the list is one that a machine can hold.
-/
import Derived.Test.YtnhcmloaanamnaaSum
import Derived.ProofKit
namespace Go.Proofs.Ytnhcmloaanamnaa
open Flt Go.RowKit Go.ChangeShapes Go.WideShapes

/-- what is known of a list that came in -/
structure ListF (w : World) (A : Option Addr) (len : Nat) (zs : List Nat) : Prop where
  size : zs.length = len
  row : RowF w w.heap.size A zs
  small : len ≤ maxLen

theorem float_cell {H : Type} {enc : TypeId × Value → H} {P : Program} {w : World} {base : Nat} {spare : Nat → Bool} {held : Bool} {n : Nat} {e : TypeId} {v : Value} {x : DataW H × List MemPlace} (he : P.underlying e = some (.float .f32)) (h : DataW.trod enc P w base spare held n e [v] = some x) : ∃ b, v = .float .f32 b := by
  cases n with
  | zero => simp [DataW.trod] at h
  | succ n =>
    simp only [DataW.trod, he] at h
    cases v <;> simp at h
    rename_i k b
    cases k
    · exact ⟨b, rfl⟩
    · simp at h

theorem open_floats {H : Type} {enc : TypeId × Value → H} {P : Program} {w : World} {spare : Nat → Bool} {held : Bool} {t e : TypeId} {A : Option Addr} {len cap : Nat} {d : DataW H} {ps : List MemPlace} (ht : P.underlying t = some (.slice e)) (he : P.underlying e = some (.float .f32)) (hc : P.cellsOf e = 1)
    (h : DataW.Trod enc P w 0 spare held t (.slice A len cap) d ps) : ∃ zs, ListF w A len zs := by
  obtain ⟨fuel, hf⟩ := h
  rcases Go.Deep.open_slice1 ht hc hf with ⟨hcs, _⟩ | ⟨a, l, c, m, n, V, D, Pl, hcs, _, hl, hm, hmm, _, hx⟩
  · simp [Value.cells] at hcs
    obtain ⟨rfl, rfl, rfl⟩ := hcs
    exact ⟨[], rfl, fun h => by simp at h, by unfold maxLen; omega⟩
  · simp [Value.cells] at hcs
    obtain ⟨rfl, rfl, rfl⟩ := hcs
    have hlm : len ≤ m := by rw [hmm]; split <;> omega
    have hV : ∀ i, i < len → ∃ b, V i = .float .f32 b := fun i hi => float_cell he (hx i (by omega)).2
    obtain ⟨f, hF⟩ := Go.Deep.choose_lt (α := Nat) (p := fun i b => V i = .float .f32 b) hV
    refine ⟨(List.range len).map f, by simp, ?_, by omega⟩
    intro h0
    have hlen : 0 < len := by simpa using h0
    obtain ⟨b, off, spot⟩ := a
    have hspot : spot = none := by
      have := (hx 0 (by omega)).1
      simpa [Addr.add] using World.cell?_spot this
    subst hspot
    refine ⟨b, off, rfl, ?_, fun j hj => ?_⟩
    · have h1 := (hx 0 (by omega)).1
      rcases Nat.lt_or_ge b w.heap.size with hb | hb
      · exact hb
      · exfalso
        simp [World.cell?, Addr.add, Array.getElem?_eq_none hb] at h1
    · have hj' : j < len := by simpa using hj
      have h1 := (hx j (by omega)).1
      rw [hF j hj', Go.WideShapes.add_plain] at h1
      rw [h1]
      simp [at0, List.getD, hj']


end Go.Proofs.Ytnhcmloaanamnaa
