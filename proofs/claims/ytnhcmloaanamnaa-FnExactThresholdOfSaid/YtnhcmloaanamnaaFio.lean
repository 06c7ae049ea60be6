/-
  What is proved here: how fields and lists of bools that came in are read. Conditions: they are ones that a machine can hold.
-/
import Derived.Test.YtnhcmloaanamnaaFie
namespace Go.Proofs.Ytnhcmloaanamnaa
open Go.RowKit Go.ChangeShapes Go.WideShapes
set_option linter.unusedVariables false

theorem bool_cell {H : Type} {enc : TypeId × Value → H} {P : Program} {w : World} {base : Nat} {spare : Nat → Bool} {held : Bool} {n : Nat} {e : TypeId} {v : Value} {x : DataW H × List MemPlace} (he : P.underlying e = some .bool) (h : DataW.trod enc P w base spare held n e [v] = some x) : ∃ b, v = .bool b := by
  cases n with
  | zero => simp [DataW.trod] at h
  | succ n =>
    simp only [DataW.trod, he] at h
    cases v <;> simp at h
    exact ⟨_, rfl⟩

/-- what is known of a list of bools that came in -/
structure ListB (w : World) (A : Option Addr) (n : Nat) (p : Nat → Bool) : Prop where
  row : RowV w w.heap.size A n (bo p)
  small : n ≤ 9223372036854775807

theorem open_bls {H : Type} {enc : TypeId × Value → H} {P : Program} {w : World} {spare : Nat → Bool} {held : Bool} {t e : TypeId} {A : Option Addr} {len cap : Nat} {d : DataW H} {ps : List MemPlace} (ht : P.underlying t = some (.slice e)) (he : P.underlying e = some .bool) (hc : P.cellsOf e = 1)
    (h : DataW.Trod enc P w 0 spare held t (.slice A len cap) d ps) : ∃ p, ListB w A len p := by
  obtain ⟨fuel, hf⟩ := h
  rcases Go.Deep.open_slice1 ht hc hf with ⟨hcs, _⟩ | ⟨a, l, c, m, n, V, D, Pl, hcs, _, hl, hm, hmm, _, hx⟩
  · simp [Value.cells] at hcs
    obtain ⟨rfl, rfl, rfl⟩ := hcs
    exact ⟨fun _ => false, fun h => absurd h (Nat.lt_irrefl _), by omega⟩
  · simp [Value.cells] at hcs
    obtain ⟨rfl, rfl, rfl⟩ := hcs
    have hlm : len ≤ m := by rw [hmm]; split <;> omega
    have hV : ∀ i, i < len → ∃ b, V i = .bool b := fun i hi => bool_cell he (hx i (by omega)).2
    obtain ⟨f, hF⟩ := Go.Deep.choose_lt (α := Bool) (p := fun i b => V i = .bool b) hV
    have hml : len ≤ maxLen := by omega
    unfold maxLen at hml
    refine ⟨f, ?_, by omega⟩
    intro hlen
    obtain ⟨b, off, spot⟩ := a
    have hspot : spot = none := by
      have := (hx 0 (by omega)).1
      simpa [Addr.add] using World.cell?_spot this
    subst hspot
    refine ⟨b, off, rfl, ?_, fun j hj => ?_⟩
    · have h1 := (hx 0 (by omega)).1
      rcases Nat.lt_or_ge b w.heap.size with hb | hb
      · exact hb
      · exfalso
        simp [World.cell?, Addr.add, Array.getElem?_eq_none hb] at h1
    · have h1 := (hx j (by omega)).1
      rw [hF j hj, Go.WideShapes.add_plain] at h1
      exact h1

/-- what is known of a field that came in -/
structure FieldIn (w : World) (x y : Int) (A : Option Addr) (n : Nat) (p : Nat → Bool) : Prop where
  row : RowV w w.heap.size A n (bo p)
  small : n ≤ 9223372036854775807
  wide : (Lit.int .i64 x).wf = true
  high : (Lit.int .i64 y).wf = true


end Go.Proofs.Ytnhcmloaanamnaa
