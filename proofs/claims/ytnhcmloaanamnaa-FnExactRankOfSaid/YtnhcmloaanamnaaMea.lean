/-
  What is proved here: sums of what is told; means and means of squares, of both packages, as walks; roots. Conditions: at most 1048576 numbers, 256 where it is said.
-/
import Derived.Test.YtnhcmloaanamnaaApp
import Derived.Test.YtnhcmloaanamnaaDot
import Derived.Test.YtnhcmloaanamnaaRoot
namespace Go.Proofs.Ytnhcmloaanamnaa
open Flt Go.RowKit
set_option linter.unusedVariables false

/-- the sum of what is told, in order -/
def sumT (f : Nat → Option Nat) : Nat → Option Nat
  | 0 => can .f32 0
  | k + 1 => fop .add .f32 (sumT f k) (f k)
def sqT (f : Nat → Option Nat) (j : Nat) : Option Nat := fop .mul .f32 (f j) (f j)
theorem sumF_take (zs : List Nat) : ∀ k, k ≤ zs.length → sumF (zs.take k) = sumT (fun j => can .f32 (at0 zs j)) k := by
  intro k
  induction k with
  | zero => intro _; rfl
  | succ k ih =>
    intro h
    rw [sum_step zs k (by omega), ih (by omega)]; rfl
theorem sumF_self (zs : List Nat) : sumF zs = sumT (fun j => can .f32 (at0 zs j)) zs.length := by
  have := sumF_take zs zs.length (Nat.le_refl _)
  rwa [List.take_of_length_le (Nat.le_refl _)] at this
theorem sumT_ext {f g : Nat → Option Nat} {n : Nat} (h : ∀ j, j < n → f j = g j) : sumT f n = sumT g n := by
  induction n with
  | zero => rfl
  | succ n ih =>
    show fop _ _ _ _ = fop _ _ _ _
    rw [ih (fun j hj => h j (by omega)), h n (by omega)]
theorem sumF_tl {f : Nat → Option Nat} {n : Nat} {ys : List Nat} (h : Tl f n ys) : sumF ys = sumT f n := by
  rw [sumF_self, h.len]
  exact sumT_ext fun j hj => h.at' j hj
theorem dotF_tl {f g : Nat → Option Nat} {n : Nat} {xs ys : List Nat} (h : Tl f n xs) (k : Tl g n ys) : ∀ m, m ≤ n → dotF xs ys m = sumT (fun j => fop .mul .f32 (f j) (g j)) m := by
  intro m
  induction m with
  | zero => intro _; rfl
  | succ m ih =>
    intro hm
    show fop _ _ _ _ = fop _ _ _ _
    rw [ih (by omega), h.at' m (by omega), k.at' m (by omega)]
/-- so many, as a number -/
def lenF (n : Nat) : Option Nat := can .f32 (floatOfInt .f32 (n : Int))
def meanF (zs : List Nat) : Option Nat := fop .quo .f32 (sumF zs) (lenF zs.length)

/-- the root of what is told -/
def rootF (c : Option Nat) : Option Nat := nar (fsqrt (wid c))
theorem mpost_of {c : Option Nat} {b : Bool} {w w0 : World} {e : Ending} {w' : World} (h : VPost c b w e w') (hb : Below w0.heap.size w0 w) : MPost c b w0 e w' := by
  obtain ⟨g, n, h1, h2, h3, h4⟩ := h
  subst h2
  exact ⟨g, h1, h3, h4, belowN hb⟩
theorem mpost_no {c : Option Nat} {b : Bool} {w w' : World} (hc : c = some 0) (hb : b = false) (h : Below w.heap.size w w') : MPost c b w (.returned (.tuple #[.float .f32 0, .bool false])) w' := by
  subst hc hb
  exact ⟨0, rfl, by show can .f32 0 = some 0; decide, ⟨by decide⟩, h⟩
theorem mpost_yes {c : Option Nat} {b : Bool} {g : Nat} {w w' : World} (hc : can .f32 g = c) (hb : b = true) (hw : WF .f32 g) (h : Below w.heap.size w w') : MPost c b w (.returned (.tuple #[.float .f32 g, .bool true])) w' := by
  subst hb
  exact ⟨g, rfl, hc, hw, h⟩

end Go.Proofs.Ytnhcmloaanamnaa
