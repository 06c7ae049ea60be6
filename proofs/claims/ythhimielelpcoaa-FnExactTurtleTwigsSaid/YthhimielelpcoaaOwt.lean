/-
  What is proved here: a sheet of its own, as the model makes it, as a walk. Conditions: at least one height and at most 1048576.
-/
import Derived.Test.YthhimielelpcoaaCpy
namespace Go.Proofs.Ythhimielelpcoaa
open Flt Go.RowKit
attribute [local go_sem] run_store_float

theorem grown_below {w w' : World} {k L : Nat} (h : w.grownBy w' (some k)) (hL : L ≤ k) (hs : L ≤ w.heap.size) : Below L w w' :=
  ⟨h.os, h.tape, h.output, h.size, fun j hj => h.block j (by omega) (by intro e; injection e with e; omega)⟩
theorem Two.chg {b w w' : World} {X Y n c : Nat} {x y : Int} {A : Option Addr} (h : Two b X Y x y A n c w) (hb : Below (Y + 1) w w') : Two b X Y x y A n c w' := by
  have hX : X < Y + 1 := Nat.lt_succ_of_lt h.xy
  have hY : Y < Y + 1 := Nat.lt_succ_self Y
  refine ⟨h.xy, Nat.lt_of_lt_of_le h.yb hb.size, h.lo.trans (hb.mono (Nat.le_succ Y)), ?_, ?_, ?_, ?_, ?_, ?_, ?_, ?_, ?_⟩
  · rw [hb.cell (p := ⟨X, 0, none⟩) hX]; exact h.c0
  · rw [hb.cell (p := ⟨X, 1, none⟩) hX]; exact h.c1
  · rw [hb.cell (p := ⟨X, 2, none⟩) hX]; exact h.c2
  · exact rd_of ((hb.cell (p := ⟨Y, 0, none⟩) hY).trans h.d0)
  · exact rd_of ((hb.cell (p := ⟨Y, 1, none⟩) hY).trans h.d1)
  · exact rd_of ((hb.cell (p := ⟨Y, 2, none⟩) hY).trans h.d2)
  · rw [hb.frozen (p := ⟨Y, 0, none⟩) hY]; exact h.f0
  · rw [hb.frozen (p := ⟨Y, 1, none⟩) hY]; exact h.f1
  · rw [hb.frozen (p := ⟨Y, 2, none⟩) hY]; exact h.f2


end Go.Proofs.Ythhimielelpcoaa
