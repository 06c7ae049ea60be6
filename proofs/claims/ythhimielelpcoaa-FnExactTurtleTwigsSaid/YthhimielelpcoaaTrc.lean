/-
  What is proved here: a line behind a variable, and the program's closure that draws it, as a walk. Conditions: at most 256 points.
-/
import Derived.Test.YthhimielelpcoaaGrt
import Derived.Deep.CutRange
namespace Go.Proofs.Ythhimielelpcoaa
open Flt Go.RowKit
set_option linter.unusedVariables false
set_option linter.unusedSimpArgs false

/-- a line behind a variable -/
structure LnS (w : World) (G bx : Nat) (L : List (Nat × Nat)) (lg lc : Nat) : Prop where
  cell : w.cell? ⟨bx, 0, none⟩ = some (.slice (some ⟨lg, 0, none⟩) L.length lc)
  free : w.frozen? ⟨bx, 0, none⟩ = false
  own : GroC w G L (some ⟨lg, 0, none⟩) lc
  lt : bx < w.heap.size
  ne : lg ≠ bx
/-- nothing but a line, its variable, and what is new, has changed -/
structure ButL (bx lg : Nat) (w w' : World) : Prop where
  os : w'.os = w.os
  tape : w'.tape = w.tape
  output : w'.output = w.output
  size : w.heap.size ≤ w'.heap.size
  block : ∀ k, k < w.heap.size → k ≠ bx → k ≠ lg → w'.heap[k]? = w.heap[k]?
theorem LnS.heap {w w' : World} {G bx lg lc : Nat} {L : List (Nat × Nat)} (h : LnS w G bx L lg lc) (hs : w.heap.size ≤ w'.heap.size) (e1 : w'.heap[bx]? = w.heap[bx]?) (e2 : w'.heap[lg]? = w.heap[lg]?) : LnS w' G bx L lg lc :=
  ⟨(World.cell?_of_block (a := ⟨bx, 0, none⟩) e1).trans h.cell, (World.frozen?_of_block (a := ⟨bx, 0, none⟩) e1).trans h.free, h.own.heap fun x hx => by injection hx with hx; subst hx; exact e2, Nat.lt_of_lt_of_le h.lt hs, h.ne⟩

set_option maxHeartbeats 4000000 in
set_option maxRecDepth 100000 in
theorem cloLin (bx G lg lc : Nat) (L : List (Nat × Nat)) (a b c d : Nat) (w : World) (h : LnS w G bx L lg lc) (hL : L.length ≤ 256) (hG : G ≤ w.heap.size) :
    Calls Try.prog 85 #[.complex .f32 a b, .complex .f32 c d, .pointer (some ⟨bx, 0, none⟩)] w fun e w' => e = .returned (.bool (decide (L.length + 1 ≤ 256))) ∧ ∃ lg' lc', Hid (LnS w' G bx (L ++ [(c, d)]) lg' lc') ∧ Hid (ButL bx lg w w') ∧ (lg' = lg ∨ w.heap.size ≤ lg') := by
  have HH := Lib.hid h
  have hc := h.cell
  have hdec : decide ((L.length : Int) + 1 ≤ 256) = decide (L.length + 1 ≤ 256) := by rw [decide_eq_decide]; omega
  have HDC := Lib.hid hdec
  clear h hdec
  go_enter Try.func85, Try.ntmps85

  go_wp2_with (at_builtin; refine wpGroD rfl _ _ rfl (w0 := w) (y := (c, d)) HH.out.own rfl rfl rfl (by omega) hG ?_; intro g9 c9 w9 O9 A9 p9; have eb := A9.block bx HH.out.lt (fun z hz => by injection hz with hz; subst hz; exact HH.out.ne); have cb := (World.cell?_of_block (a := ⟨bx, 0, none⟩) eb).trans HH.out.cell; have fb := (World.frozen?_of_block (a := ⟨bx, 0, none⟩) eb).trans HH.out.free; have HO9 := Lib.hid O9; have HA9 := Lib.hid A9; have HP9 := Lib.hid p9; clear O9 A9 p9 eb)
  have h9 : g9 ≠ bx := by
    rcases HP9.out with ⟨z, hz, e⟩ | h
    · injection hz with hz
      subst hz
      intro e2
      exact HH.out.ne (by show lg = bx; rw [← e2]; exact e)
    · have := HH.out.lt; omega
  have hb9 : bx < w9.heap.size := Nat.lt_of_lt_of_le HH.out.lt HA9.out.size
  go_ret
  refine ⟨by show Ending.returned (Value.bool (decide ((L.length : Int) + 1 ≤ 256))) = _; rw [HDC.out], g9, c9, ⟨?_, ?_, ?_, by simpa [World.setCell] using hb9, h9⟩, ⟨HA9.out.os, HA9.out.tape, HA9.out.output, by have := HA9.out.size; simpa [World.setCell] using this, fun k hk h1 h2 => ?_⟩, ?_⟩
  · rw [World.cell?_setCell_same _ _ _ cb, List.length_append]; rfl
  · rw [World.frozen?_setCell]; exact fb
  · exact HO9.out.heap fun x hx => by injection hx with hx; subst hx; exact Below.heap_setCell _ _ _ _ h9
  · rw [Below.heap_setCell _ _ _ _ (by exact h1)]
    exact HA9.out.block k hk fun z hz => by injection hz with hz; subst hz; exact fun e => h2 e.symm
  · rcases HP9.out with ⟨z, hz, e⟩ | h
    · injection hz with hz
      subst hz
      exact .inl e.symm
    · exact .inr h
end Go.Proofs.Ythhimielelpcoaa
