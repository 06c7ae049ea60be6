/-
  What is proved here: nothing yet: how a field lies at a place of a block. Conditions: none.
-/
import Derived.Test.YteojpmnnpinpeaaFsm
namespace Go.Proofs.Yteojpmnnpinpeaa
open Go.RowKit

/-- a field that lies at a place of a block -/
structure VarO (w : World) (v o : Nat) (x y : Int) (A : Option Addr) (n c : Nat) : Prop where
  lt : v < w.heap.size
  c0 : w.cell? ⟨v, o, none⟩ = some (.int .i64 x)
  c1 : w.cell? ⟨v, o + 1, none⟩ = some (.int .i64 y)
  c2 : w.cell? ⟨v, o + 2, none⟩ = some (.slice A n c)

end Go.Proofs.Yteojpmnnpinpeaa
