/-
  What is proved here: how a sheet that came in is read. Conditions: it is one that a machine can hold.
-/
import Derived.Test.YtgiblioilpedfaaSumB
import Derived.ProofKit
import Derived.Lib.SmallJoins
import Derived.Deep.Fields
import Derived.ChangeSame
namespace Go.Proofs.Ytgiblioilpedfaa
open Flt Go.RowKit Go.ChangeShapes Go.WideShapes

/-- what is known of a sheet that came in -/
structure SheetIn (w : World) (x y : Int) (A : Option Addr) (n : Nat) (zs : List Nat) : Prop where
  row : RowF w w.heap.size A zs
  len : zs.length = n
  small : n ≤ 9223372036854775807
  wide : (Lit.int .i64 x).wf = true
  high : (Lit.int .i64 y).wf = true

set_option maxRecDepth 1000000 in
theorem open_sheet {H : Type} {enc : TypeId × Value → H} {w : World} {spare : Nat → Bool} {held : Bool} {r : Reach} {b0 : Nat} {v : Value} {d : DataW H} {p : List MemPlace}
    (hv : Value.okWide Try.prog w r b0 24 v) (h : DataW.Trod enc Try.prog w 0 spare held 24 v d p) :
    ∃ x y A n c zs, v = .agg #[.int .i64 x, .int .i64 y, .slice A n c] ∧ SheetIn w x y A n zs := by
  obtain ⟨v0, v1, v2, y0, y1, y2, k, rfl, _, _, t0, t1, t2⟩ := Go.Joins.open_agg3 Try.underlying24 (by kernel_rfl) (by kernel_rfl) hv h
  obtain ⟨x, hx, _, wx⟩ := DataW.trod_int Try.underlying2 t0
  obtain ⟨y, hy, _, wy⟩ := DataW.trod_int Try.underlying2 t1
  simp only [List.cons.injEq, and_true] at hx hy
  subst hx hy
  have hs : ∃ A n c, v2 = .slice A n c := by
    rcases Go.Deep.open_slice1 Try.underlying22 (by kernel_rfl) t2 with ⟨hcs, _⟩ | ⟨a, l, c, m, n, V, D, Pl, hcs, _⟩
    · simp only [List.cons.injEq, and_true] at hcs
      exact ⟨_, _, _, hcs⟩
    · simp only [List.cons.injEq, and_true] at hcs
      exact ⟨_, _, _, hcs⟩
  obtain ⟨A, n, c, rfl⟩ := hs
  obtain ⟨zs, hsz, hrow, hsm⟩ := open_floats Try.underlying22 Try.underlying25 (by kernel_rfl) ⟨k, t2⟩
  exact ⟨x, y, A, n, c, zs, rfl, hrow, hsz, by unfold maxLen at hsm; omega, wx, wy⟩

end Go.Proofs.Ytgiblioilpedfaa
