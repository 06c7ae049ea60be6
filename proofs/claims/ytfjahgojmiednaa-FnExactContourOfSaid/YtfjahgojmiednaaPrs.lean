/-
  What is proved here: pairs of places of a sheet, in a row and in a column, told as lists of numbers, in the order of both packages; what is reckoned of them. Conditions: none but those that each theorem names. Own text.
-/
import Derived.Test.YtfjahgojmiednaaNrm
namespace Go.Proofs.Ytfjahgojmiednaa
open Flt Go.RowKit
set_option linter.unusedVariables false

def hpB (W lag i : Nat) : Bool := decide (i % W + lag < W)
def vpB (W H lag i : Nat) : Bool := decide (i / W + lag < H)
/-- the pairs in a row, of the first k places -/
def horS (W lag k : Nat) : List (Nat × Nat) := ((List.range k).filter (hpB W lag)).map fun i => (i, i + lag)
/-- the pairs in a column, of the first k places -/
def verS (W H lag k : Nat) : List (Nat × Nat) := ((List.range k).filter (vpB W H lag)).map fun i => (i, i + lag * W)
theorem horS_zero (W lag : Nat) : horS W lag 0 = [] := rfl
theorem verS_zero (W H lag : Nat) : verS W H lag 0 = [] := rfl
theorem horS_yes {W lag k : Nat} (h : hpB W lag k = true) : horS W lag (k + 1) = horS W lag k ++ [(k, k + lag)] := by
  unfold horS
  rw [List.range_succ, List.filter_append, List.map_append]
  simp [h]
theorem horS_no {W lag k : Nat} (h : hpB W lag k = false) : horS W lag (k + 1) = horS W lag k := by
  unfold horS
  rw [List.range_succ, List.filter_append, List.map_append]
  simp [h]
theorem verS_yes {W H lag k : Nat} (h : vpB W H lag k = true) : verS W H lag (k + 1) = verS W H lag k ++ [(k, k + lag * W)] := by
  unfold verS
  rw [List.range_succ, List.filter_append, List.map_append]
  simp [h]
theorem verS_no {W H lag k : Nat} (h : vpB W H lag k = false) : verS W H lag (k + 1) = verS W H lag k := by
  unfold verS
  rw [List.range_succ, List.filter_append, List.map_append]
  simp [h]
theorem at_mod {W y x : Nat} (hx : x < W) : (y * W + x) % W = x := by rw [Nat.mul_comm, Nat.mul_add_mod, Nat.mod_eq_of_lt hx]
theorem at_div {W y x : Nat} (hx : x < W) : (y * W + x) / W = y := by
  rw [Nat.mul_comm, Nat.mul_add_div (by omega), Nat.div_eq_of_lt hx, Nat.add_zero]
/-- one more of a row -/
theorem hor_step {W lag y x : Nat} (hx : x + lag < W) : horS W lag (y * W + x + 1) = horS W lag (y * W + x) ++ [(y * W + x, y * W + x + lag)] :=
  horS_yes (by unfold hpB; rw [at_mod (by omega)]; exact decide_eq_true hx)
/-- the rest of a row has none -/
theorem hor_row {W lag y x : Nat} (hx : x ≤ W) (hl : W ≤ x + lag) : horS W lag (y * W + x) = horS W lag ((y + 1) * W) := by
  have key : ∀ d, ∀ x, x + d = W → W ≤ x + lag → horS W lag (y * W + x) = horS W lag ((y + 1) * W) := by
    intro d
    induction d with
    | zero => intro x h _; rw [show y * W + x = (y + 1) * W by rw [Nat.add_mul, Nat.one_mul]; omega]
    | succ d ih =>
      intro x h hl
      have := ih (x + 1) (by omega) (by omega)
      rw [show y * W + (x + 1) = y * W + x + 1 by omega, horS_no (by unfold hpB; rw [at_mod (by omega)]; exact decide_eq_false (by omega))] at this
      exact this
  exact key (W - x) x (by omega) hl
theorem ver_step {W H lag y x : Nat} (hx : x < W) (hy : y + lag < H) : verS W H lag (y * W + x + 1) = verS W H lag (y * W + x) ++ [(y * W + x, y * W + x + lag * W)] :=
  verS_yes (by unfold vpB; rw [at_div hx]; exact decide_eq_true hy)
/-- the rest of the rows have none -/
theorem ver_rest {W H lag : Nat} (hW : 0 < W) : ∀ d k, (H - lag) * W ≤ k → verS W H lag (k + d) = verS W H lag k := by
  intro d
  induction d with
  | zero => intro k _; rfl
  | succ d ih =>
    intro k hk
    have hq : vpB W H lag (k + d) = false := by
      unfold vpB
      refine decide_eq_false ?_
      have : H - lag ≤ (k + d) / W := (Nat.le_div_iff_mul_le hW).2 (by omega)
      omega
    rw [← Nat.add_assoc, verS_no hq]
    exact ih k hk
/-- all pairs, told whether they are in a column -/
def prsL (W H lag : Nat) : List (Nat × Nat × Bool) := (horS W lag (W * H)).map (fun p => (p.1, p.2, false)) ++ (verS W H lag (W * H)).map fun p => (p.1, p.2, true)

/-- the square of a difference, and the sum of such -/
def sqO (zs : List Nat) (p : Nat × Nat) : Option Nat := fop .mul .f32 (fop .sub .f32 (can .f32 (at0 zs p.2)) (can .f32 (at0 zs p.1))) (fop .sub .f32 (can .f32 (at0 zs p.2)) (can .f32 (at0 zs p.1)))
def sqS (zs : List Nat) (a : Option Nat) (L : List (Nat × Nat)) : Option Nat := L.foldl (fun a p => fop .add .f32 a (sqO zs p)) a
theorem sqS_nil (zs : List Nat) (a : Option Nat) : sqS zs a [] = a := rfl
theorem sqS_snoc (zs : List Nat) (a : Option Nat) (L : List (Nat × Nat)) (p : Nat × Nat) : sqS zs a (L ++ [p]) = fop .add .f32 (sqS zs a L) (sqO zs p) := by unfold sqS; rw [List.foldl_append]; rfl
theorem sqS_app (zs : List Nat) (a : Option Nat) (L M : List (Nat × Nat)) : sqS zs a (L ++ M) = sqS zs (sqS zs a L) M := by unfold sqS; rw [List.foldl_append]
theorem prsL_len (W H lag : Nat) : (prsL W H lag).length = (horS W lag (W * H)).length + (verS W H lag (W * H)).length := by unfold prsL; rw [List.length_append, List.length_map, List.length_map]
theorem horS_le (W lag k : Nat) : (horS W lag k).length ≤ k := by
  unfold horS
  rw [List.length_map]
  exact Nat.le_trans (List.length_filter_le _ _) (by rw [List.length_range]; exact Nat.le_refl _)
theorem verS_le (W H lag k : Nat) : (verS W H lag k).length ≤ k := by
  unfold verS
  rw [List.length_map]
  exact Nat.le_trans (List.length_filter_le _ _) (by rw [List.length_range]; exact Nat.le_refl _)

end Go.Proofs.Ytfjahgojmiednaa
