/-
  What is proved here: whether two fields are the same, as the model tells it: a part. Conditions: at most 1048576 cells.
-/
import Derived.Test.YteojpmnnpinpeaaSo0
namespace Go.Proofs.Yteojpmnnpinpeaa
open Go.RowKit
set_option linter.unusedVariables false

set_option maxHeartbeats 16000000 in
set_option maxRecDepth 100000 in
theorem specOmB (v o v2 o2 : Nat) (x y : Int) (A : Option Addr) (n c : Nat) (p : Nat → Bool) (x2 y2 : Int) (A2 : Option Addr) (n2 c2 : Nat) (p2 : Nat → Bool) (w : World) (V : VarO w v o x y A n c) (V2 : VarO w v2 o2 x2 y2 A2 n2 c2) (hr : RowV w w.heap.size A n (bo p)) (hq : RowV w w.heap.size A2 n2 (bo p2)) (hn : n ≤ 1048576) (hn2 : n2 ≤ 1048576) (h1 : x = x2) (h2 : ¬ y = y2) :
    Calls Try.prog 70 #[.pointer (some ⟨v, o, none⟩), .pointer (some ⟨v2, o2, none⟩)] w fun e w' => e = .returned (.bool (sfB x y n p x2 y2 n2 p2)) ∧ ∃ k, w' = w.drewN k := by
  obtain ⟨_, c0, c1, c2'⟩ := V
  obtain ⟨_, d0, d1, d2⟩ := V2
  have E : Hid (sfB x y n p x2 y2 n2 p2 = ((x == x2) && ((y == y2) && ((n == n2) && allB p p2 n)))) := rfl
  have HR := Lib.hid hr
  have HQ := Lib.hid hq
  clear hr hq
  subst h1
  have E2 : Hid (sfB x y n p x y2 n2 p2 = false) := by
    show _ = _
    rw [E.out, beq_self_eq_true, show (y == y2) = false from beq_eq_false_iff_ne.2 h2]; rfl
  clear E HR HQ
  go_enter Try.func70, Try.ntmps70
  go_wp2_with fail
  go_quiet (fail)
  go_wp2
  go_ret
  exact ⟨by rw [E2.out]; rfl, _, rfl⟩

end Go.Proofs.Yteojpmnnpinpeaa
