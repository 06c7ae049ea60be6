/-
  What is proved here: RangeOfSheet, of both packages, as walks. Conditions: at most 1048576 heights.
-/
import Derived.Test.YtnhcmloaanamnaaMas
namespace Go.Proofs.Ytnhcmloaanamnaa
open Flt Go.RowKit

/-- the lesser one, the first of equal ones -/
def lessW (x y : Nat) : Nat := if FloatKind.f32.format.order y x = some .lt then y else x
def greatW (x y : Nat) : Nat := if FloatKind.f32.format.order y x = some .gt then y else x
def loW (zs : List Nat) : Nat → Nat
  | 0 => at0 zs 0
  | k + 1 => lessW (loW zs k) (at0 zs k)
def hiW (zs : List Nat) : Nat → Nat
  | 0 => at0 zs 0
  | k + 1 => greatW (hiW zs k) (at0 zs k)
theorem beq_of_not {a : Option Ordering} {b : Ordering} (h : ¬ a = some b) : (a == some b) = false := beq_eq_false_iff_ne.2 h



theorem shB_pos {x y : Int} {zs : List Nat} (h : shB x y zs = true) : 0 < zs.length := by
  unfold shB at h
  simp only [Bool.and_eq_true] at h
  obtain ⟨h1, h2, h3, _⟩ := h
  have := prod_bd h1 h2
  have := eq_of_beq h3
  omega


/-- what the range of a sheet is -/
def RPost (x y : Int) (zs : List Nat) (w : World) (e : Ending) (w' : World) : Prop := ∃ l h b, e = .returned (.tuple #[.float .f32 l, .float .f32 h, .bool b]) ∧ Hid (l = (if shB x y zs = true then loW zs zs.length else 0) ∧ h = (if shB x y zs = true then hiW zs zs.length else 0) ∧ b = shB x y zs) ∧ Hid (Below w.heap.size w w')



end Go.Proofs.Ytnhcmloaanamnaa
