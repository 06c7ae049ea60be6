/-
  What is proved here: whether fields are valid, of both packages, as walks. Conditions: at most 1048576 cells.
-/
import Derived.Test.YtnhcmloaanamnaaFie
import Derived.Test.YtnhcmloaanamnaaInb
namespace Go.Proofs.Ytnhcmloaanamnaa
open Go.RowKit
set_option linter.unusedVariables false

/-- a field is valid -/
def fvB (x y : Int) (n : Nat) : Bool := sidB x y && ((n : Int) == x * y)
theorem fvB_1 {x y : Int} {n : Nat} (h : sidB x y = false) : fvB x y n = false := by unfold fvB; rw [h]; rfl
theorem fvB_2 {x y : Int} {n : Nat} (h : sidB x y = true) : fvB x y n = ((n : Int) == x * y) := by unfold fvB; rw [h]; rfl
theorem fvB_yes {x y : Int} {n : Nat} (h : fvB x y n = true) : ((1 ≤ x ∧ x ≤ 16) ∧ (1 ≤ y ∧ y ≤ 16)) ∧ (n : Int) = x * y ∧ 1 ≤ n ∧ n ≤ 256 := by
  unfold fvB at h
  rw [Bool.and_eq_true] at h
  have e : (n : Int) = x * y := by simpa using h.2
  have := sid_bd h.1
  exact ⟨sidB_yes h.1, e, by omega, by omega⟩


set_option maxRecDepth 100000 in
theorem implValid (x y : Int) (A : Option Addr) (n c : Nat) (w : World) (hn : n ≤ 1048576) :
    Calls Try.prog 115 #[.agg #[.int .i64 x, .int .i64 y, .slice A n c]] w fun e w' => e = .returned (.bool (fvB x y n)) ∧ Hid (Below w.heap.size w w') := by
  have HB := Lib.hid (below_var w x y A n c 66)
  have HS := Lib.hid (fun W => implSides x y W)
  cases h1 : sidB x y
  · have N := Lib.hid (fvB_1 (n := n) h1)
    rw [h1] at HS
    clear h1
    go_enter Try.func115, Try.ntmps115
    go_wp2_with (go_at_call 92; refine (HS.out _).mono ?_; rintro e w' ⟨rfl, rfl⟩)
    go_ret
    exact ⟨by rw [N.out]; rfl, HB⟩
  · have N := Lib.hid (fvB_2 (n := n) h1)
    have hw := sid_in h1
    rw [h1] at HS
    clear h1
    go_enter Try.func115, Try.ntmps115
    go_wp2_with (go_at_call 92; refine (HS.out _).mono ?_; rintro e w' ⟨rfl, rfl⟩)
    go_ret
    exact ⟨by rw [N.out]; rfl, HB⟩



end Go.Proofs.Ytnhcmloaanamnaa
