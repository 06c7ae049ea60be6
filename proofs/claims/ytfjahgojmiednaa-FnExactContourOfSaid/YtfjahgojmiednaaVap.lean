/-
  What is proved here: how different places are, told as numbers of pairs. Conditions: none but those that each theorem names. Own text.
-/
import Derived.Test.YtfjahgojmiednaaPrs
import Derived.Test.YtfjahgojmiednaaHlf
import Derived.Test.YtfjahgojmiednaaMas
import Derived.Test.YtfjahgojmiednaaDif
import Derived.Test.YtfjahgojmiednaaOwnF
namespace Go.Proofs.Ytfjahgojmiednaa
open Flt Go.RowKit
set_option linter.unusedVariables false

theorem pr_div {x y i : Int} (hx : 1 ≤ x) (h0 : 0 ≤ i) (hi : i < x * y) : i = x * (i / x) + i % x ∧ 0 ≤ i / x ∧ i / x < y ∧ 0 ≤ i % x ∧ i % x < x := by
  have e := (Int.mul_ediv_add_emod i x).symm
  have r0 := Int.emod_nonneg i (show x ≠ 0 by omega)
  have r1 := Int.emod_lt_of_pos i (show 0 < x by omega)
  refine ⟨e, Int.ediv_nonneg h0 (by omega), ?_, r0, r1⟩
  exact Int.ediv_lt_of_lt_mul (by omega) (by rw [Int.mul_comm]; exact hi)
theorem pr_hor {x lg : Int} {k : Nat} (hx : 1 ≤ x) (hl : 1 ≤ lg) :
    ((k : Int) % x + lg < x → horS x.toNat lg.toNat (k + 1) = horS x.toNat lg.toNat k ++ [(k, k + lg.toNat)]) ∧ (¬ (k : Int) % x + lg < x → horS x.toNat lg.toNat (k + 1) = horS x.toNat lg.toNat k) := by
  obtain ⟨W, rfl⟩ := Int.eq_ofNat_of_zero_le (show 0 ≤ x by omega)
  obtain ⟨L, rfl⟩ := Int.eq_ofNat_of_zero_le (show 0 ≤ lg by omega)
  rw [Int.toNat_natCast, Int.toNat_natCast, ← Int.natCast_emod]
  refine ⟨fun h => horS_yes ?_, fun h => horS_no ?_⟩
  · unfold hpB; exact decide_eq_true (by omega)
  · unfold hpB; exact decide_eq_false (by omega)
theorem pr_ver {x y lg : Int} {k : Nat} (hx : 1 ≤ x) (hy : 1 ≤ y) (hl : 1 ≤ lg) :
    ((k : Int) / x + lg < y → verS x.toNat y.toNat lg.toNat (k + 1) = verS x.toNat y.toNat lg.toNat k ++ [(k, k + lg.toNat * x.toNat)]) ∧ (¬ (k : Int) / x + lg < y → verS x.toNat y.toNat lg.toNat (k + 1) = verS x.toNat y.toNat lg.toNat k) := by
  obtain ⟨W, rfl⟩ := Int.eq_ofNat_of_zero_le (show 0 ≤ x by omega)
  obtain ⟨H, rfl⟩ := Int.eq_ofNat_of_zero_le (show 0 ≤ y by omega)
  obtain ⟨L, rfl⟩ := Int.eq_ofNat_of_zero_le (show 0 ≤ lg by omega)
  rw [Int.toNat_natCast, Int.toNat_natCast, Int.toNat_natCast, ← Int.natCast_ediv]
  refine ⟨fun h => verS_yes ?_, fun h => verS_no ?_⟩
  · unfold vpB; exact decide_eq_true (by omega)
  · unfold vpB; exact decide_eq_false (by omega)
/-- where the other place of a pair lies -/
theorem pr_hin {x y lg : Int} {k n : Nat} (hx : 1 ≤ x) (hl : 1 ≤ lg) (hk : k < n) (hn : (n : Int) = x * y) (h : (k : Int) % x + lg < x) : k + lg.toNat < n := by
  obtain ⟨e, d0, d1, _, _⟩ := pr_div hx (show (0 : Int) ≤ k by omega) (show (k : Int) < x * y by omega)
  have m : x * ((k : Int) / x + 1) ≤ x * y := Int.mul_le_mul_of_nonneg_left (by omega) (by omega)
  rw [Int.mul_add, Int.mul_one] at m
  generalize x * ((k : Int) / x) = t at *
  omega
theorem pr_vin {x y lg : Int} {k n : Nat} (hx : 1 ≤ x) (hl : 1 ≤ lg) (hk : k < n) (hn : (n : Int) = x * y) (h : (k : Int) / x + lg < y) : k + lg.toNat * x.toNat < n ∧ ((k + lg.toNat * x.toNat : Nat) : Int) = k + lg * x := by
  obtain ⟨e, d0, d1, r0, r1⟩ := pr_div hx (show (0 : Int) ≤ k by omega) (show (k : Int) < x * y by omega)
  have m : x * ((k : Int) / x + 1 + lg) ≤ x * y := Int.mul_le_mul_of_nonneg_left (by omega) (by omega)
  rw [Int.mul_add, Int.mul_add, Int.mul_one] at m
  have c : x * lg = lg * x := Int.mul_comm _ _
  have e2 : ((k + lg.toNat * x.toNat : Nat) : Int) = k + lg * x := by
    rw [Int.natCast_add, Int.natCast_mul, Int.toNat_of_nonneg (by omega), Int.toNat_of_nonneg (by omega)]
  refine ⟨?_, e2⟩
  generalize x * ((k : Int) / x) = t at *
  generalize x * lg = u at *
  omega

def varS (x y lg : Int) (zs : List Nat) : Option Nat := sqS zs (sqS zs (can .f32 0) (horS x.toNat lg.toNat zs.length)) (verS x.toNat y.toNat lg.toNat zs.length)
def varN (x y lg : Int) (zs : List Nat) : Nat := (horS x.toNat lg.toNat zs.length).length + (verS x.toNat y.toNat lg.toNat zs.length).length
def varQ (x y lg : Int) (zs : List Nat) : Option Nat := fop .quo .f32 (fop .quo .f32 (varS x y lg zs) (can .f32 (fI (varN x y lg zs)))) (can .f32 1073741824)
def varY (x y lg : Int) (zs : List Nat) : Bool := !(varN x y lg zs == 0)
def varB (x y : Int) (zs : List Nat) (lg : Int) : Bool := shB x y zs && (inB lg 1 17 && (varY x y lg zs && finO (varQ x y lg zs)))
def varC (x y : Int) (zs : List Nat) (lg : Int) : Option Nat := if (shB x y zs && (inB lg 1 17 && varY x y lg zs)) = true then numC (varQ x y lg zs) else some 0
theorem var_no {x y : Int} {zs : List Nat} {lg : Int} (h : (shB x y zs && (inB lg 1 17 && varY x y lg zs)) = false) : varB x y zs lg = false ∧ varC x y zs lg = some 0 := by
  refine ⟨?_, ?_⟩
  · unfold varB; rw [← Bool.and_assoc, ← Bool.and_assoc, Bool.and_assoc (shB x y zs), h]; rfl
  · unfold varC; rw [h, if_neg (by decide)]
theorem var_yes {x y : Int} {zs : List Nat} {lg : Int} (h : (shB x y zs && (inB lg 1 17 && varY x y lg zs)) = true) : varB x y zs lg = finO (varQ x y lg zs) ∧ varC x y zs lg = numC (varQ x y lg zs) := by
  refine ⟨?_, ?_⟩
  · unfold varB; rw [← Bool.and_assoc, ← Bool.and_assoc, Bool.and_assoc (shB x y zs), h]; rfl
  · unfold varC; rw [if_pos h]

end Go.Proofs.Ytfjahgojmiednaa
