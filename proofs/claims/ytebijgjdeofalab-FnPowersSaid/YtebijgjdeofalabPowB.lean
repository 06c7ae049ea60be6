/-
  What is proved here: powers of eighths from -4 to 4 multiply, nearly, and their logarithms lead back, nearly: reckoned by the kernel. Conditions: none. Own text; no dump.
-/
import Derived.Test.YtebijgjdeofalabPow
namespace Go.Proofs.Ytebijgjdeofalab
open Flt Go.RowKit

/-- how far two numbers are apart -/
def gapW (a b : Nat) : Option Nat := if FloatKind.f64.format.order a b == some .lt then floatBits .sub .f64 b a else floatBits .sub .f64 a b

/-- the logarithm leads back -/
def backB (i : Nat) : Bool :=
  match floatToFloatBits .f32 (lT i) .f64, floatToFloatBits .f32 (zT (i + 32)) .f64 with
  | some u, some v => match gapW u v with
    | some g => FloatKind.f64.format.order g 4562254508917369340 == some .lt
    | none => false
  | _, _ => false
/-- the product is the power of the sum -/
def prodB (i j : Nat) : Bool :=
  (floatBits .add .f32 (zT (i + 32)) (zT (j + 32)) == some (zT (i + j))) &&
  match floatBits .mul .f64 (wT (i + 32)) (wT (j + 32)), floatBits .mul .f64 4562254508917369340 (wT (i + j)) with
  | some m, some h => match gapW m (wT (i + j)) with
    | some g => FloatKind.f64.format.order g h == some .lt
    | none => false
  | _, _ => false

theorem c4 : ((List.range 65).all backB) = true := by decide +kernel
theorem c5 : ((List.range 65).all fun i => (List.range 65).all (prodB i)) = true := by decide +kernel

theorem back_at {i : Nat} (hi : i < 65) : ∃ u v g, floatToFloatBits .f32 (lT i) .f64 = some u ∧ floatToFloatBits .f32 (zT (i + 32)) .f64 = some v ∧ gapW u v = some g ∧ FloatKind.f64.format.order g 4562254508917369340 = some .lt := by
  have h : backB i = true := all_at c4 hi
  unfold backB at h
  split at h
  · rename_i u v hu hv
    split at h
    · rename_i g hg
      exact ⟨u, v, g, hu, hv, hg, eq_of_beq h⟩
    · cases h
  · cases h
theorem prod_at {i j : Nat} (hi : i < 65) (hj : j < 65) : floatBits .add .f32 (zT (i + 32)) (zT (j + 32)) = some (zT (i + j)) ∧ ∃ m h g, floatBits .mul .f64 (wT (i + 32)) (wT (j + 32)) = some m ∧ floatBits .mul .f64 4562254508917369340 (wT (i + j)) = some h ∧ gapW m (wT (i + j)) = some g ∧ FloatKind.f64.format.order g h = some .lt := by
  have h : prodB i j = true := all_at (f := prodB i) (all_at c5 hi) hj
  unfold prodB at h
  rw [Bool.and_eq_true] at h
  obtain ⟨h1, h2⟩ := h
  refine ⟨eq_of_beq h1, ?_⟩
  split at h2
  · rename_i m p hm hp
    split at h2
    · rename_i g hg
      exact ⟨m, p, g, hm, hp, hg, eq_of_beq h2⟩
    · cases h2
  · cases h2

end Go.Proofs.Ytebijgjdeofalab
