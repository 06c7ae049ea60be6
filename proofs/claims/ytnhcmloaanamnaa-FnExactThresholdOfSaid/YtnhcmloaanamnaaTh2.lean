/-
  What is proved here: the first of the least of what goes from above to below, as the reference looks for it, and as a search of a sorted list finds it. Conditions: none but those that each theorem names. Own text.
-/
import Derived.Test.YtnhcmloaanamnaaThp
import Derived.Test.YtnhcmloaanamnaaTh0
namespace Go.Proofs.Ytnhcmloaanamnaa
open Go.RowKit
set_option linter.unusedVariables false

/-- the first one of the least key among what is told, so far -/
def bst (c : Nat → Bool) (K : Nat → Int) : Nat → Int
  | 0 => -1
  | k + 1 => if (c k && (decide (bst c K k < 0) || decide (K k < K (bst c K k).toNat))) = true then ((k : Nat) : Int) else bst c K k
theorem bst_yes {c : Nat → Bool} {K : Nat → Int} {k : Nat} (h : (c k && (decide (bst c K k < 0) || decide (K k < K (bst c K k).toNat))) = true) : bst c K (k + 1) = ((k : Nat) : Int) := by show (if _ then _ else _) = _; rw [if_pos h]
theorem bst_no {c : Nat → Bool} {K : Nat → Int} {k : Nat} (h : (c k && (decide (bst c K k < 0) || decide (K k < K (bst c K k).toNat))) = false) : bst c K (k + 1) = bst c K k := by show (if _ then _ else _) = _; rw [h, if_neg (by decide)]
theorem bst_inv (c : Nat → Bool) (K : Nat → Int) : ∀ k, (bst c K k = -1 ∧ ∀ j, j < k → c j = false) ∨ ∃ m : Nat, m < k ∧ bst c K k = (m : Int) ∧ c m = true ∧ ∀ j, j < k → c j = true → K m < K j ∨ (K m = K j ∧ m ≤ j)
  | 0 => .inl ⟨rfl, fun j h => absurd h (Nat.not_lt_zero _)⟩
  | k + 1 => by
    have ih := bst_inv c K k
    cases hc : c k with
    | false =>
      have e : bst c K (k + 1) = bst c K k := bst_no (by rw [hc]; rfl)
      rw [e]
      rcases ih with ⟨h1, h2⟩ | ⟨m, h1, h2, h3, h4⟩
      · exact .inl ⟨h1, fun j hj => by
          by_cases ej : j = k
          · rw [ej]; exact hc
          · exact h2 j (by omega)⟩
      · exact .inr ⟨m, by omega, h2, h3, fun j hj hcj => by
          by_cases ej : j = k
          · rw [ej, hc] at hcj; cases hcj
          · exact h4 j (by omega) hcj⟩
    | true =>
      rcases ih with ⟨h1, h2⟩ | ⟨m, h1, h2, h3, h4⟩
      · have e : bst c K (k + 1) = ((k : Nat) : Int) := bst_yes (by rw [hc, h1]; simp)
        rw [e]
        exact .inr ⟨k, by omega, rfl, hc, fun j hj hcj => by
          by_cases ej : j = k
          · rw [ej]; omega
          · rw [h2 j (by omega)] at hcj; cases hcj⟩
      · have em : (bst c K k).toNat = m := by rw [h2]; exact Int.toNat_natCast m
        by_cases hlt : K k < K m
        · have e : bst c K (k + 1) = ((k : Nat) : Int) := bst_yes (by rw [hc, em, decide_eq_true hlt]; simp)
          rw [e]
          exact .inr ⟨k, by omega, rfl, hc, fun j hj hcj => by
            by_cases ej : j = k
            · subst ej; omega
            · have := h4 j (by omega) hcj; omega⟩
        · have e : bst c K (k + 1) = bst c K k := bst_no (by rw [hc, em, h2, decide_eq_false hlt, decide_eq_false (by omega)]; rfl)
          rw [e]
          exact .inr ⟨m, by omega, h2, h3, fun j hj hcj => by
            by_cases ej : j = k
            · subst ej; omega
            · exact h4 j (by omega) hcj⟩
theorem bst_srt {c : Nat → Bool} {K : Nat → Int} {n f : Nat} {h : Nat → Nat} (hH : sEnd K n h) (hf : f < n) (hc : c (h f) = true) (hno : ∀ i, i < f → c (h i) = false) : bst c K n = ((h f : Nat) : Int) := by
  have hb := hH.bd f hf
  rcases bst_inv c K n with ⟨_, h2⟩ | ⟨m, h1, h2, h3, h4⟩
  · rw [h2 _ hb] at hc; cases hc
  · obtain ⟨t, _, t2, et⟩ := hH.sam.to m (Nat.zero_le _) h1
    have et : m = h t := et
    rw [h2]
    have h5 := h4 _ hb hc
    by_cases e : t = f
    · rw [et, e]
    · by_cases e2 : t < f
      · rw [et, hno t e2] at h3; cases h3
      · have h6 := hH.blk.srt f t (Nat.zero_le _) (by omega) t2
        rw [← et] at h6
        unfold sLt at h6
        omega
/-- a sorted list's keys rise -/
theorem sEnd.le {K : Nat → Int} {n i j : Nat} {h : Nat → Nat} (hH : sEnd K n h) (hij : i ≤ j) (hj : j < n) : K (h i) ≤ K (h j) := by
  by_cases e : i = j
  · rw [e]; omega
  · have := hH.blk.srt i j (Nat.zero_le _) (by omega) hj
    unfold sLt at this
    omega
/-- with weights up to that of one cell, one goes from above to below -/
def thC (x y : Int) (zs : List Nat) (t : Int) : Bool := crB x y zs.length fun j => decide (gK zs j ≤ t)
theorem thC_mono {x y : Int} {zs : List Nat} {s t : Int} (hx : 1 ≤ x) (hn : (zs.length : Int) = x * y) (hst : s ≤ t) (h : thC x y zs s = true) : thC x y zs t = true := crB_mono hx hn (fun j hj => decide_eq_true (by have := of_decide_eq_true hj; omega)) h
theorem thC_last {x y : Int} {zs : List Nat} {h : Nat → Nat} (hx : 1 ≤ x) (hy : 1 ≤ y) (hn : (zs.length : Int) = x * y) (hH : sEnd (gK zs) zs.length h) (h0 : 0 < zs.length) : thC x y zs (gK zs (h (zs.length - 1))) = true :=
  crB_all hx hy hn fun j hj => decide_eq_true (by
    obtain ⟨t, _, t2, et⟩ := hH.sam.to j (Nat.zero_le _) hj
    have et : j = h t := et
    rw [et]
    exact hH.le (by omega) (by omega))
/-- what ThresholdOf tells -/
def thM (x y : Int) (zs : List Nat) : Nat := (bst (fun k => thC x y zs (gK zs k)) (gK zs) zs.length).toNat
theorem thM_is {x y : Int} {zs : List Nat} {h : Nat → Nat} {f : Nat} (hH : sEnd (gK zs) zs.length h) (hf : f < zs.length) (hc : thC x y zs (gK zs (h f)) = true) (hno : ∀ i, i < f → thC x y zs (gK zs (h i)) = false) : thM x y zs = h f := by
  unfold thM
  rw [bst_srt hH hf hc hno]
  exact Int.toNat_natCast _
end Go.Proofs.Ytnhcmloaanamnaa
