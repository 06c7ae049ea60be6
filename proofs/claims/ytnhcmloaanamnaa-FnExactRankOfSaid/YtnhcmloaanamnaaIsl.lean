/-
  What is proved here: whether a list is one, of both packages, as walks. Conditions: at most 1048576 numbers.
-/
import Derived.Test.YtnhcmloaanamnaaLk
namespace Go.Proofs.Ytnhcmloaanamnaa
open Flt Go.RowKit
set_option linter.unusedVariables false

/-- few finite numbers -/
def lisB (zs : List Nat) : Bool := decide (zs.length ≤ 256) && finAll zs
theorem lisB_yes {zs : List Nat} (h : lisB zs = true) : zs.length ≤ 256 ∧ finAll zs = true := by
  unfold lisB at h
  rw [Bool.and_eq_true] at h
  exact ⟨of_decide_eq_true h.1, h.2⟩

theorem specList (A : Option Addr) (c : Nat) (zs : List Nat) (w : World) (Z : Nat) (hr : RowF w Z A zs) (hn : zs.length ≤ 1048576) :
    Calls Try.prog 32 #[.slice A zs.length c] w fun e w' => e = .returned (.bool (lisB zs)) ∧ ∃ n, w' = w.drewN n := by
  have HR := Lib.hid hr
  clear hr
  by_cases h : zs.length ≤ 256
  · have N : Hid (lisB zs = finAll zs) := by show _ = _; unfold lisB; rw [decide_eq_true h]; rfl
    have h2 : (zs.length : Int) ≤ 256 := by omega
    clear h
    go_enter Try.func32, Try.ntmps32
    go_wp2_with (go_at_call 68; refine (specFins A c zs _ Z HR.out hn).mono ?_; rintro e w' ⟨rfl, n, rfl⟩)
    go_ret
    exact ⟨by rw [N.out]; rfl, _, rfl⟩
  · have N : Hid (lisB zs = false) := by show _ = _; unfold lisB; rw [decide_eq_false h]; rfl
    have h2 : (256 : Int) < zs.length := by omega
    clear h
    go_enter Try.func32, Try.ntmps32
    go_wp2_with fail
    go_ret
    exact ⟨by rw [N.out]; rfl, 0, rfl⟩
theorem implList (A : Option Addr) (c : Nat) (zs : List Nat) (w : World) (Z : Nat) (hr : RowF w Z A zs) (hn : zs.length ≤ 1048576) :
    Calls Try.prog 34 #[.slice A zs.length c] w fun e w' => e = .returned (.bool (lisB zs)) ∧ ∃ n, w' = w.drewN n := by
  have HR := Lib.hid hr
  clear hr
  by_cases h : zs.length ≤ 256
  · have N : Hid (lisB zs = finAll zs) := by show _ = _; unfold lisB; rw [decide_eq_true h]; rfl
    have h2 : (zs.length : Int) ≤ 256 := by omega
    clear h
    go_enter Try.func34, Try.ntmps34
    go_wp2_with (go_at_call 42; refine (implFins A c zs _ Z HR.out hn).mono ?_; rintro e w' ⟨rfl, n, rfl⟩)
    go_ret
    exact ⟨by rw [N.out]; rfl, _, rfl⟩
  · have N : Hid (lisB zs = false) := by show _ = _; unfold lisB; rw [decide_eq_false h]; rfl
    have h2 : (256 : Int) < zs.length := by omega
    clear h
    go_enter Try.func34, Try.ntmps34
    go_wp2_with fail
    go_ret
    exact ⟨by rw [N.out]; rfl, 0, rfl⟩


end Go.Proofs.Ytnhcmloaanamnaa
