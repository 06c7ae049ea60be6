/-
  What is proved here: the sine of turns as a walk, whatever is drawn. Conditions: words fit their kinds.
-/
import Derived.Test.YtfjahgojmiednaaNum
import Derived.Test.YtfjahgojmiednaaMag
import Derived.Outline
namespace Go.Proofs.Ytfjahgojmiednaa
open Flt Go.RowKit

/-- the integer that is left -/
def trI (y : Nat) : Int := (floatToIntVal .f64 y .i64).getD 0
/-! tests -/
def ltB (a b : Option Nat) : Bool := ford .f64 a b == some .lt
def gtB (a b : Option Nat) : Bool := ford .f64 a b == some .gt
def geB (a b : Option Nat) : Bool := ford .f64 a b == some .gt || ford .f64 a b == some .eq
theorem lt_t {x y : Nat} {a b : Option Nat} (ha : can .f64 x = a) (hb : can .f64 y = b) {c : Bool} (h : (FloatKind.f64.format.order x y == some .lt) = c) : ltB a b = c := by
  unfold ltB; rw [← ha, ← hb, ← ford_can]; exact h
theorem gt_t {x y : Nat} {a b : Option Nat} (ha : can .f64 x = a) (hb : can .f64 y = b) {c : Bool} (h : (FloatKind.f64.format.order x y == some .gt) = c) : gtB a b = c := by
  unfold gtB; rw [← ha, ← hb, ← ford_can]; exact h
theorem ge_t {x y : Nat} {a b : Option Nat} (ha : can .f64 x = a) (hb : can .f64 y = b) (h : (FloatKind.f64.format.order x y == some .gt) = true ∨ (FloatKind.f64.format.order x y == some .eq) = true) : geB a b = true := by
  unfold geB; rw [← ha, ← hb, ← ford_can]; simpa using h
theorem ge_f {x y : Nat} {a b : Option Nat} (ha : can .f64 x = a) (hb : can .f64 y = b) (h : (FloatKind.f64.format.order x y == some .gt) = false ∧ (FloatKind.f64.format.order x y == some .eq) = false) : geB a b = false := by
  unfold geB; rw [← ha, ← hb, ← ford_can]; simpa using h

/-- what is behind the point -/
def fracF (y : Nat) : Option Nat :=
  let d := fop .sub .f64 (can .f64 y) (can .f64 (floatOfInt .f64 (trI y)))
  if ltB d (can .f64 0) = true then fop .add .f64 d (can .f64 4607182418800017408) else d
/-- the series: how many rounds have been made -/
def polyS (u : Option Nat) : Nat → Option Nat
  | 0 => can .f64 4607182418800017408
  | j + 1 => fop .sub .f64 (can .f64 4607182418800017408) (fop .quo .f64 (fop .mul .f64 u (polyS u j)) (can .f64 (floatOfInt .f64 (wrap64 (2 * ((8 - j : Nat) : Int) * (2 * ((8 - j : Nat) : Int) + 1))))))
/-- folded -/
def foldF (f : Option Nat) : Option Nat :=
  let g := if geB f (can .f64 4602678819172646912) = true then fop .sub .f64 f (can .f64 4602678819172646912) else f
  if gtB g (can .f64 4598175219545276416) = true then fop .sub .f64 (can .f64 4602678819172646912) g else g
def sineF (f : Option Nat) : Option Nat :=
  let z := fop .mul .f64 (foldF f) (can .f64 4618760256179416344)
  let v := fop .mul .f64 z (polyS (fop .mul .f64 z z) 8)
  if geB f (can .f64 4602678819172646912) = true then fneg .f64 v else v


theorem unary_negf (k : FloatKind) (b : Nat) : Op.unary .neg (.float k b) = pure (.float k (Op.negFloat k b)) := rfl
attribute [local go_sem] unary_negf

theorem neg_wf {k : FloatKind} {b : Nat} (h : WF k b) : WF k (Op.negFloat k b) := by
  refine ⟨?_⟩
  show b ^^^ 2 ^ (k.format.exponentBits + k.format.fractionBits) < 2 ^ k.format.width
  have e : k.format.width = k.format.exponentBits + k.format.fractionBits + 1 := by unfold Ieee.Format.width; omega
  refine Nat.xor_lt_two_pow h.lt ?_
  rw [e]; exact Nat.pow_lt_pow_right (by decide) (by omega)


theorem nan_any (w : World) : Calls Try.prog 93 #[] w fun e w' => e = .returned (.float .f64 9221120237041090561) ∧ w' = w := by
  have h2 := f64frombits
  go_enter Try.func93, Try.ntmps93
  go_wp2
  go_ret
  exact ⟨rfl, rfl⟩


end Go.Proofs.Ytfjahgojmiednaa
