/-
  What is proved here: the sides of a cell that are among cells, as the program tells them, as walks. Conditions: sides of a field, a cell of it.
-/
import Derived.Test.YtnhcmloaanamnaaSdi
import Derived.Test.YtnhcmloaanamnaaFpk
import Derived.Test.YtnhcmloaanamnaaFva
import Derived.Lib.SliceRun
namespace Go.Proofs.Ytnhcmloaanamnaa
open Go.RowKit
set_option linter.unusedVariables false

/-- what the closure of sidesAmong reads -/
structure Clo (w : World) (v B : Nat) (A : Option Addr) (n c : Nat) (p : Nat → Bool) : Prop where
  lt : v < B
  cell : w.cell? ⟨v, 0, none⟩ = some (.slice A n c)
  row : RowV w B A n (bo p)
theorem Clo.butIn {w w' : World} {v B lo hi n c : Nat} {A : Option Addr} {p : Nat → Bool} (h : Clo w v B A n c p) (hb : ButIn lo hi w w') (hB : B ≤ w.heap.size) (hl : B ≤ lo ∨ hi = 0) : Clo w' v B A n c p := by
  have hv := h.lt
  exact ⟨h.lt, by rw [World.cell?_of_block (w := w) (hb.block v (by omega) (by omega))]; exact h.cell, h.row.butIn hb hB hl⟩
theorem Clo.dn {w : World} {v B n c k : Nat} {A : Option Addr} {p : Nat → Bool} (h : Clo w v B A n c p) : Clo (w.drewN k) v B A n c p := ⟨h.lt, h.cell, h.row⟩

/-- the full ones of a list of cells -/
def fulD (p : Nat → Bool) (L : List Int) (j : Nat) : Bool := p (atI L j).toNat
/-- a list of cells of a field -/
def CellsL (L : List Int) (n : Nat) : Prop := ∀ j, j < L.length → 0 ≤ atI L j ∧ atI L j < n

/-- the full ones of the first so many -/
def kepL (p : Nat → Bool) (L : List Int) : Nat → List Int
  | 0 => []
  | j + 1 => if fulD p L j = true then kepL p L j ++ [atI L j] else kepL p L j
theorem kepL_yes {p : Nat → Bool} {L : List Int} {j : Nat} (h : fulD p L j = true) : kepL p L (j + 1) = kepL p L j ++ [atI L j] := by
  conv => lhs; unfold kepL
  rw [if_pos h]
theorem kepL_no {p : Nat → Bool} {L : List Int} {j : Nat} (h : fulD p L j = false) : kepL p L (j + 1) = kepL p L j := by
  conv => lhs; unfold kepL
  rw [if_neg (by rw [h]; decide)]
theorem kepL_le (p : Nat → Bool) (L : List Int) (j : Nat) : (kepL p L j).length ≤ j := by
  induction j with
  | zero => exact Nat.le_refl _
  | succ j ih =>
    unfold kepL
    split
    · rw [List.length_append]; simp; exact ih
    · omega
theorem atI_snoc (M : List Int) (u : Int) (j : Nat) (hj : j < M.length + 1) : atI (M ++ [u]) j = if j = M.length then u else atI M j := by
  unfold atI
  rw [List.getD_eq_getElem?_getD, List.getD_eq_getElem?_getD]
  by_cases e : j = M.length
  · subst e
    rw [if_pos rfl, List.getElem?_append_right (Nat.le_refl _)]; simp
  · rw [if_neg e, List.getElem?_append_left (by omega)]
theorem kepL_all (p : Nat → Bool) (L : List Int) (j : Nat) (h : ∀ t, t < j → fulD p L t = true) : (kepL p L j).length = j ∧ ∀ t, t < j → atI (kepL p L j) t = atI L t := by
  induction j with
  | zero => exact ⟨rfl, fun t ht => absurd ht (Nat.not_lt_zero _)⟩
  | succ j ih =>
    obtain ⟨h1, h2⟩ := ih fun t ht => h t (by omega)
    rw [kepL_yes (h j (Nat.lt_succ_self _))]
    refine ⟨by rw [List.length_append, h1]; rfl, fun t ht => ?_⟩
    rw [atI_snoc _ _ _ (by rw [h1]; exact ht), h1]
    by_cases e : t = j
    · rw [if_pos e, e]
    · rw [if_neg e]; exact h2 t (by omega)
/-- the row as it is moved together -/
def movF (p : Nat → Bool) (L : List Int) (j : Nat) : Nat → Int := fun t => if t < (kepL p L j).length then atI (kepL p L j) t else atI L t
theorem movF_put {p : Nat → Bool} {L : List Int} {j : Nat} (h : fulD p L j = true) : ∀ t, put (iv (movF p L j)) (kepL p L j).length (.int .i64 (atI L j)) t = iv (movF p L (j + 1)) t := fun t => by
  unfold put iv movF
  rw [kepL_yes h, List.length_append]
  by_cases e : t = (kepL p L j).length
  · rw [if_pos e, if_pos (by simp; omega), atI_snoc _ _ _ (by omega), if_pos e]
  · rw [if_neg e]
    by_cases g : t < (kepL p L j).length
    · rw [if_pos g, if_pos (by simp; omega), atI_snoc _ _ _ (by omega), if_neg e]
    · rw [if_neg g, if_neg (by simp; omega)]
theorem butIn_setCells {lo hi b : Nat} (h1 : lo ≤ b) (h2 : b < hi) : ∀ (vs : List Value) (o : Nat) (a w : World), ButIn lo hi a w → ButIn lo hi a (w.setCells b o vs)
  | [], _, _, _, h => h
  | v :: r, o, a, w, h => butIn_setCells h1 h2 r (o + 1) a _ (h.set (q := ⟨b, o, none⟩) h1 h2 v)
theorem zeroI (w : World) : (zeroValue 2).run Try.prog w = .ok (.int .i64 0) w := by kernel_rfl


end Go.Proofs.Ytnhcmloaanamnaa
