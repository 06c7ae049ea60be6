/-
  What is proved here: whether weights are ones of a field, of both packages. Conditions: at most 1048576 weights.
-/
import Derived.Test.YtnhcmloaanamnaaTh0
import Derived.Test.YtnhcmloaanamnaaFva
import Derived.Test.YtnhcmloaanamnaaInb
namespace Go.Proofs.Ytnhcmloaanamnaa
open Flt Go.RowKit
set_option linter.unusedVariables false
set_option linter.unusedSimpArgs false

/-- weights of a field -/
def wtB (x y : Int) (zs : List Nat) : Bool := fvB x y zs.length && finAll zs

set_option maxRecDepth 100000 in
theorem specWei (x y : Int) (A : Option Addr) (c Z : Nat) (zs : List Nat) (w : World) (hr : RowF w Z A zs) (hn : zs.length ≤ 1048576) :
    Calls Try.prog 51 #[.slice A zs.length c, .int .i64 x, .int .i64 y] w fun e w' => e = .returned (.bool (wtB x y zs)) ∧ ∃ k, w' = w.drewN k := by
  have HS := Lib.hid (fun W => specSides x y W)
  have HF := Lib.hid (specFins A c zs w Z hr hn)
  clear hr
  cases h1 : sidB x y
  · have N : Hid (wtB x y zs = false) := by show _ = _; unfold wtB; rw [fvB_1 h1]; rfl
    rw [h1] at HS
    clear h1
    go_enter Try.func51, Try.ntmps51
    go_wp2_with (go_at_call 90; refine (HS.out _).mono ?_; rintro e w' ⟨rfl, rfl⟩)
    go_ret
    exact ⟨by rw [N.out]; rfl, 0, rfl⟩
  · have hw := sid_in h1
    rw [h1] at HS
    by_cases he : (zs.length : Int) = x * y
    · have N : Hid (wtB x y zs = finAll zs) := by show _ = _; unfold wtB; rw [fvB_2 h1, he]; simp
      have hb : ((zs.length : Int) == x * y) = true := by simp [he]
      clear h1 he
      go_enter Try.func51, Try.ntmps51
      go_wp2_with (first | (go_at_call 90; refine (HS.out _).mono ?_; rintro e w' ⟨rfl, rfl⟩) | (go_at_call 68; refine HF.out.mono ?_; rintro e w' ⟨rfl, k, rfl⟩))
      go_ret
      exact ⟨by rw [N.out]; rfl, _, rfl⟩
    · have N : Hid (wtB x y zs = false) := by show _ = _; unfold wtB; rw [fvB_2 h1, beq_eq_false_iff_ne.2 he]; rfl
      have hb : ((zs.length : Int) == x * y) = false := beq_eq_false_iff_ne.2 he
      clear h1 he
      go_enter Try.func51, Try.ntmps51
      go_wp2_with (go_at_call 90; refine (HS.out _).mono ?_; rintro e w' ⟨rfl, rfl⟩)
      go_ret
      exact ⟨by rw [N.out]; rfl, 0, rfl⟩
set_option maxRecDepth 100000 in
theorem implWei (x y : Int) (A : Option Addr) (c Z : Nat) (zs : List Nat) (w : World) (hr : RowF w Z A zs) (hn : zs.length ≤ 1048576) :
    Calls Try.prog 53 #[.slice A zs.length c, .int .i64 x, .int .i64 y] w fun e w' => e = .returned (.bool (wtB x y zs)) ∧ ∃ k, w' = w.drewN k := by
  have HS := Lib.hid (fun W => implSides x y W)
  have HF := Lib.hid (implFins A c zs w Z hr hn)
  clear hr
  cases h1 : sidB x y
  · have N : Hid (wtB x y zs = false) := by show _ = _; unfold wtB; rw [fvB_1 h1]; rfl
    rw [h1] at HS
    clear h1
    go_enter Try.func53, Try.ntmps53
    go_wp2_with (go_at_call 92; refine (HS.out _).mono ?_; rintro e w' ⟨rfl, rfl⟩)
    go_ret
    exact ⟨by rw [N.out]; rfl, 0, rfl⟩
  · have hw := sid_in h1
    rw [h1] at HS
    by_cases he : (zs.length : Int) = x * y
    · have N : Hid (wtB x y zs = finAll zs) := by show _ = _; unfold wtB; rw [fvB_2 h1, he]; simp
      have hb : ((zs.length : Int) == x * y) = true := by simp [he]
      clear h1 he
      go_enter Try.func53, Try.ntmps53
      go_wp2_with (first | (go_at_call 92; refine (HS.out _).mono ?_; rintro e w' ⟨rfl, rfl⟩) | (go_at_call 42; refine HF.out.mono ?_; rintro e w' ⟨rfl, k, rfl⟩))
      go_ret
      exact ⟨by rw [N.out]; rfl, _, rfl⟩
    · have N : Hid (wtB x y zs = false) := by show _ = _; unfold wtB; rw [fvB_2 h1, beq_eq_false_iff_ne.2 he]; rfl
      have hb : ((zs.length : Int) == x * y) = false := beq_eq_false_iff_ne.2 he
      clear h1 he
      go_enter Try.func53, Try.ntmps53
      go_wp2_with (go_at_call 92; refine (HS.out _).mono ?_; rintro e w' ⟨rfl, rfl⟩)
      go_ret
      exact ⟨by rw [N.out]; rfl, 0, rfl⟩

end Go.Proofs.Ytnhcmloaanamnaa
