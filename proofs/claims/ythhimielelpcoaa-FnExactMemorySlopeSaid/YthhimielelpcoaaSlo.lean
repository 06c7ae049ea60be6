/-
  What is proved here: SlopeOf, of both packages, as walks. Conditions: at most 1048576 numbers.
-/
import Derived.Test.YthhimielelpcoaaMea
namespace Go.Proofs.Ythhimielelpcoaa
open Flt Go.RowKit
set_option linter.unusedVariables false

def selfF (zs : List Nat) (j : Nat) : Option Nat := can .f32 (at0 zs j)
def mulF (xs ys : List Nat) (j : Nat) : Option Nat := fop .mul .f32 (selfF xs j) (selfF ys j)
/-- by what is divided, the slope and the base -/
def sloE (xs ys : List Nat) : Option Nat := fop .sub .f32 (fop .mul .f32 (lenF xs.length) (sumT (mulF xs xs) xs.length)) (fop .mul .f32 (sumT (selfF xs) xs.length) (sumT (selfF xs) xs.length))
def sloS (xs ys : List Nat) : Option Nat := fop .quo .f32 (fop .sub .f32 (fop .mul .f32 (lenF xs.length) (sumT (mulF xs ys) xs.length)) (fop .mul .f32 (sumT (selfF xs) xs.length) (sumT (selfF ys) xs.length))) (sloE xs ys)
def sloB (xs ys : List Nat) : Option Nat := fop .quo .f32 (fop .sub .f32 (sumT (selfF ys) xs.length) (fop .mul .f32 (sloS xs ys) (sumT (selfF xs) xs.length))) (lenF xs.length)
/-- the lists go together -/
def sloIn (xs ys : List Nat) : Bool := lisB xs && (lisB ys && ((xs.length == ys.length) && decide (2 ≤ xs.length)))
def sloOk (xs ys : List Nat) : Bool := finO (sloS xs ys) && finO (sloB xs ys)

/-- nothing finite comes of dividing by nothing -/
theorem quo_zero {a : Option Nat} {e : Nat} (h : FloatKind.f32.format.order e 0 = some .eq) : finO (fop .quo .f32 a (can .f32 e)) = false := by
  have hn : nanW .f32 e = false := by
    cases hn : nanW .f32 e with
    | false => rfl
    | true => rw [show FloatKind.f32.format.order e 0 = none from order_nan_left hn] at h; cases h
  rw [ord0 hn] at h
  have hz : e % FloatKind.f32.format.signWeight = 0 := by
    have h := Option.some.inj h
    unfold side at h
    by_cases hz : e % FloatKind.f32.format.signWeight = 0
    · exact hz
    · rw [if_neg hz] at h; split at h <;> cases h
  have hr : ∃ s p, FloatKind.f32.format.read e = .number s 0 p := by
    obtain ⟨m, d, hr, hv⟩ := read_V (k := .f32) (w := e) (by rw [hz]; decide)
    rw [hz, (V_zero_iff (B := FloatKind.f32.format.binade) (Nat.two_pow_pos _)).2 rfl] at hv
    have : m = 0 := by
      rcases Nat.eq_zero_or_pos m with h | h
      · exact h
      · have := Nat.mul_pos h (Nat.two_pow_pos d); omega
    subst this
    exact ⟨_, _, hr⟩
  obtain ⟨s, p, hr⟩ := hr
  cases a with
  | none => rfl
  | some x =>
    rw [can_num hn]
    show finO (floatBits .quo .f32 x e) = false
    have hb : floatBits .quo .f32 x e = ((FloatKind.f32.format.read x).quotient (FloatKind.f32.format.fractionBits + 2) (FloatKind.f32.format.read e)).map FloatKind.f32.format.write := rfl
    rw [hb, hr]
    have inf : ∀ t : Bool, finO (some (FloatKind.f32.format.write (.infinity t))) = false := by intro t; cases t <;> decide
    cases FloatKind.f32.format.read x with
    | number t m q =>
      simp only [Ieee.Datum.quotient]
      by_cases hm : m = 0
      · simp [hm]; rfl
      · simp [hm]; exact inf _
    | infinity t =>
      simp only [Ieee.Datum.quotient, Option.map_some]
      exact inf _
    | nan t u => rfl

end Go.Proofs.Ythhimielelpcoaa
