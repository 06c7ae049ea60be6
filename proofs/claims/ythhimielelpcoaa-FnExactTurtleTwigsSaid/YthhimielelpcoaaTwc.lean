/-
  What is proved here: an append of one that lies in a row of its own, as a step of a region that draws its order; two lines behind two variables. Conditions: at most 1048576 of them.
-/
import Derived.Test.YthhimielelpcoaaGrt
import Derived.Deep.AppendLies
import Derived.Deep.RegionLaw
namespace Go.Proofs.Ythhimielelpcoaa
open Flt Go.RowKit
set_option linter.unusedVariables false
set_option linter.unusedSimpArgs false

/-- an append of one that lies in a row of its own, as a step of a region that draws its order -/
theorem stepGroX {ops : Array Oper} {o : Oper} {a : Act} {K : Act → World → Prop} {Q : Exit → Act → World → Prop} {E : Prop} (hgd : o.guard = none) (s x : Operand)
    (ho : o.op = .call { callee := .builtin .append, args := #[s, x], argTypes := #[50, 50] })
    {w : World} {G c b cb : Nat} {y : Nat × Nat} {L : List (Nat × Nat)} {A : Option Addr} (hO : GroC w G L A c) (hY : GroC w G [y] (some ⟨b, 0, none⟩) cb) (hs : a.eval s = .slice A L.length c) (hx : a.eval x = .slice (some ⟨b, 0, none⟩) 1 cb) (hL : L.length ≤ 1048576) (hG : G ≤ w.heap.size)
    (h : ∀ g' c' w', GroC w' G (L ++ [y]) (some ⟨g', 0, none⟩) c' → ButT A w w' → ((∃ b, A = some b ∧ b.block = g') ∨ w.heap.size ≤ g') → K (a.put o.dst (.slice (some ⟨g', 0, none⟩) (L.length + 1) c')) w') :
    if Region.wanted o (yielded ops a.tmps) = true then Oper.wp Try.prog o a w K Q else E := by
  obtain ⟨i0, hi, hz0, hz1, hz2⟩ := info_parts info_cG
  refine step_append_lies _ hgd s x 50 ho G 113 i0 (.complex .f32 0 0) 1 8 Try.underlying50 hi hz0 hz1 hz2 rfl (by decide) _ L.length (L.map (fun p : Nat × Nat => Value.complex .f32 p.1 p.2)) hs hO ⟨b, 0, none⟩ 1 cb [.complex .f32 y.1 y.2] hx rfl (World.ownsRow.cells hY rfl) (by intro u hu; rw [List.mem_singleton.1 hu]; rfl) (by decide) (by unfold maxLen; omega) (by omega) (by first | exact hG | omega) _ rfl ?_
  intro g' cap w' h1 h2 h3 h4
  refine h g' cap w' ?_ ⟨h2.os, h2.tape, h2.output, h2.size, fun k hk hd => ?_⟩ ?_
  · unfold GroC
    rw [List.length_append, List.map_append]
    exact h1
  · exact h2.block k hk (by
      intro e
      rcases hO.cases with ⟨rfl, _, _⟩ | ⟨g, rfl⟩
      · cases e
      · injection e with e
        exact hd _ rfl e.symm)
  · rcases h3 with h | h
    · rcases hO.cases with ⟨rfl, _, _⟩ | ⟨g, rfl⟩
      · cases h
      · injection h with h
        exact .inl ⟨_, rfl, h⟩
    · exact .inr (Nat.le_of_eq h.symm)
/-- a line behind a variable, nil or not -/
structure LnA (w : World) (G bx : Nat) (L : List (Nat × Nat)) (A : Option Addr) (c : Nat) : Prop where
  cell : w.cell? ⟨bx, 0, none⟩ = some (.slice A L.length c)
  free : w.frozen? ⟨bx, 0, none⟩ = false
  own : GroC w G L A c
  lt : bx < w.heap.size
  ne : ∀ a, A = some a → a.block ≠ bx
theorem LnA.heap {w w' : World} {G bx c : Nat} {L : List (Nat × Nat)} {A : Option Addr} (h : LnA w G bx L A c) (hs : w.heap.size ≤ w'.heap.size) (e1 : w'.heap[bx]? = w.heap[bx]?) (e2 : ∀ a, A = some a → w'.heap[a.block]? = w.heap[a.block]?) : LnA w' G bx L A c :=
  ⟨(World.cell?_of_block (a := ⟨bx, 0, none⟩) e1).trans h.cell, (World.frozen?_of_block (a := ⟨bx, 0, none⟩) e1).trans h.free, h.own.heap e2, Nat.lt_of_lt_of_le h.lt hs, h.ne⟩
/-- two lines behind two variables, apart -/
structure Ln2 (w : World) (G b1 b2 : Nat) (L1 L2 : List (Nat × Nat)) (A1 A2 : Option Addr) (c1 c2 : Nat) : Prop where
  l1 : LnA w G b1 L1 A1 c1
  l2 : LnA w G b2 L2 A2 c2
  nb : b1 ≠ b2
  n12 : ∀ a, A1 = some a → a.block ≠ b2
  n21 : ∀ a, A2 = some a → a.block ≠ b1
  na : ∀ a b, A1 = some a → A2 = some b → a.block ≠ b.block

end Go.Proofs.Ythhimielelpcoaa
