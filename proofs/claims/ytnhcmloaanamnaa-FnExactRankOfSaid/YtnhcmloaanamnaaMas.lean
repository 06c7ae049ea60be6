/-
  What is proved here: MassOfSheet and RangeOfSheet, of both packages, as walks. Conditions: at most 1048576 heights.
-/
import Derived.Test.YtnhcmloaanamnaaShv
namespace Go.Proofs.Ytnhcmloaanamnaa
open Flt Go.RowKit

/-- a number is finite -/
def finO (a : Option Nat) : Bool := match a with | some x => finB .f32 x | none => false
theorem finO_can (g : Nat) : finO (can .f32 g) = finB .f32 g := by
  cases hn : nanW .f32 g with
  | true => rw [can_nan hn, finB_nan hn]; rfl
  | false => rw [can_num hn]; rfl
def numC (c : Option Nat) : Option Nat := if finO c = true then c else some 0

theorem specNumber (g : Nat) (c : Option Nat) (hc : can .f32 g = c) (hw : WF .f32 g) (w : World) : Calls Try.prog 45 #[.float .f32 g] w (VPost (numC c) (finO c) w) := by
  cases h : finO c
  · have HF : Hid (finB .f32 g = false) := by show _ = _; rw [← finO_can, hc]; exact h
    have N : Hid (numC c = some 0) := by show _ = _; unfold numC; rw [h, if_neg (by decide)]
    clear h hc
    rw [N.out]
    go_enter Try.func45, Try.ntmps45
    go_wp2_with (go_at_call 84; refine (specFin _ _).mono ?_; rintro e w' ⟨rfl, n, rfl⟩; rw [HF.out])
    go_ret2
    exact vpost_no
  · have HF : Hid (finB .f32 g = true) := by show _ = _; rw [← finO_can, hc]; exact h
    have N : Hid (numC c = c) := by show _ = _; unfold numC; rw [h, if_pos rfl]
    have HC := Lib.hid hc
    clear h hc
    rw [N.out]
    go_enter Try.func45, Try.ntmps45
    go_wp2_with (go_at_call 84; refine (specFin _ _).mono ?_; rintro e w' ⟨rfl, n, rfl⟩; rw [HF.out])
    go_ret2
    exact vpost HC.out hw

/-- what a function of sheets gives: a word, and whether it has one -/
def MPost (c : Option Nat) (b : Bool) (w : World) (e : Ending) (w' : World) : Prop := ∃ g, e = .returned (.tuple #[.float .f32 g, .bool b]) ∧ Hid (can .f32 g = c) ∧ WF .f32 g ∧ Hid (Below w.heap.size w w')
def massB (x y : Int) (zs : List Nat) : Bool := shB x y zs && finO (sumF zs)
def massC (x y : Int) (zs : List Nat) : Option Nat := if shB x y zs = true then numC (sumF zs) else some 0




end Go.Proofs.Ytnhcmloaanamnaa
