/-
  What is proved here: the groups that go from above to below, told as a list of numbers, in both packages' words. Conditions: none but those that each theorem names. Own text.
-/
import Derived.Test.YtnhcmloaanamnaaGpn
import Derived.Test.YtnhcmloaanamnaaGpv
namespace Go.Proofs.Ytnhcmloaanamnaa
open Go.RowKit
set_option linter.unusedVariables false

def anyN (q : Nat → Bool) : Nat → Bool
  | 0 => false
  | k + 1 => anyN q k || q k
theorem anyN_iff {q : Nat → Bool} {k : Nat} : anyN q k = true ↔ ∃ j, j < k ∧ q j = true := by
  induction k with
  | zero => exact ⟨fun h => (nomatch h), fun ⟨j, h, _⟩ => absurd h (Nat.not_lt_zero _)⟩
  | succ k ih =>
    show (anyN q k || q k) = true ↔ _
    rw [Bool.or_eq_true, ih]
    constructor
    · rintro (⟨j, h, g⟩ | h)
      · exact ⟨j, by omega, g⟩
      · exact ⟨k, by omega, h⟩
    · rintro ⟨j, h, g⟩
      by_cases e : j = k
      · subst e; exact .inr g
      · exact .inl ⟨j, by omega, g⟩
/-- a group has a cell in the first row, one in the last row -/
def abvB (x : Int) (G : List Int) : Bool := G.any fun c => decide (c < x)
def blwB (x : Int) (n : Nat) (G : List Int) : Bool := G.any fun c => decide ((n : Int) - x ≤ c)
def spnB (x : Int) (n : Nat) (G : List Int) : Bool := abvB x G && blwB x n G
/-- the numbers of the groups among the first so many that go from above to below -/
def spL (x : Int) (n : Nat) (Gs : List (List Int)) : Nat → List Int
  | 0 => []
  | k + 1 => if spnB x n (Gs.getD k []) = true then spL x n Gs k ++ [(k : Int)] else spL x n Gs k
theorem spL_yes {x : Int} {n : Nat} {Gs : List (List Int)} {k : Nat} (h : spnB x n (Gs.getD k []) = true) : spL x n Gs (k + 1) = spL x n Gs k ++ [(k : Int)] := by show (if _ then _ else _) = _; rw [if_pos h]
theorem spL_no {x : Int} {n : Nat} {Gs : List (List Int)} {k : Nat} (h : spnB x n (Gs.getD k []) = false) : spL x n Gs (k + 1) = spL x n Gs k := by show (if _ then _ else _) = _; rw [h, if_neg (by decide)]
theorem spL_le (x : Int) (n : Nat) (Gs : List (List Int)) (k : Nat) : (spL x n Gs k).length ≤ k := by
  induction k with
  | zero => exact Nat.le_refl _
  | succ k ih =>
    cases h : spnB x n (Gs.getD k []) with
    | true => rw [spL_yes h, List.length_append]; simp; omega
    | false => rw [spL_no h]; omega
theorem abv_is {p : Int → Bool} {nb : Int → List Int} {n W k : Nat} {x : Int} (H : NbOk n nb) (hx : x = (W : Int)) (hk : k < (grsG p nb n n).length) (hW : W ≤ n) :
    anyN (fun j => numG (grsG p nb n n) (j : Int) == (k : Int)) W = abvB x ((grsG p nb n n).getD k []) := by
  rw [Bool.eq_iff_iff, anyN_iff]
  unfold abvB
  rw [List.any_eq_true]
  constructor
  · rintro ⟨j, hj, h⟩
    rw [beq_iff_eq, num_iff H n (Nat.le_refl _) k hk] at h
    exact ⟨_, h, decide_eq_true (by omega)⟩
  · rintro ⟨c, hc, h⟩
    have h1 := of_decide_eq_true h
    have h2 := grs_in H (Nat.le_refl _) hk c hc
    refine ⟨c.toNat, by omega, ?_⟩
    rw [beq_iff_eq, num_iff H n (Nat.le_refl _) k hk, Int.toNat_of_nonneg h2.1]
    exact hc
theorem blw_is {p : Int → Bool} {nb : Int → List Int} {n W k s : Nat} {x : Int} (H : NbOk n nb) (hx : x = (W : Int)) (hk : k < (grsG p nb n n).length) (hW : s + W = n) :
    anyN (fun j => numG (grsG p nb n n) ((s + j : Nat) : Int) == (k : Int)) W = blwB x n ((grsG p nb n n).getD k []) := by
  rw [Bool.eq_iff_iff, anyN_iff]
  unfold blwB
  rw [List.any_eq_true]
  constructor
  · rintro ⟨j, hj, h⟩
    rw [beq_iff_eq, num_iff H n (Nat.le_refl _) k hk] at h
    exact ⟨_, h, decide_eq_true (by omega)⟩
  · rintro ⟨c, hc, h⟩
    have h1 := of_decide_eq_true h
    have h2 := grs_in H (Nat.le_refl _) hk c hc
    refine ⟨c.toNat - s, by omega, ?_⟩
    rw [beq_iff_eq, num_iff H n (Nat.le_refl _) k hk, show ((s + (c.toNat - s) : Nat) : Int) = c by omega]
    exact hc

theorem first_any (L : List Int) (q : Int → Bool) : ∃ R, R ≤ L.length ∧ (∀ t, t < R → q (atI L t) = false) ∧ (R < L.length → q (atI L R) = true) ∧ (L.any q = decide (R < L.length)) := by
  have key : ∀ n, n ≤ L.length → ∃ R, R ≤ n ∧ (∀ t, t < R → q (atI L t) = false) ∧ (R < n → q (atI L R) = true) := by
    intro n
    induction n with
    | zero => intro _; exact ⟨0, Nat.le_refl _, fun t ht => absurd ht (Nat.not_lt_zero _), fun h => absurd h (Nat.not_lt_zero _)⟩
    | succ n ih =>
      intro hn
      obtain ⟨R, h1, h2, h3⟩ := ih (by omega)
      by_cases e : R < n
      · exact ⟨R, by omega, h2, fun _ => h3 e⟩
      · have : R = n := by omega
        subst this
        cases hq : q (atI L R) with
        | false => exact ⟨R + 1, Nat.le_refl _, fun t ht => by
            by_cases g : t = R
            · rw [g]; exact hq
            · exact h2 t (by omega), fun h => by omega⟩
        | true => exact ⟨R, by omega, h2, fun _ => hq⟩
  obtain ⟨R, h1, h2, h3⟩ := key L.length (Nat.le_refl _)
  refine ⟨R, h1, h2, h3, ?_⟩
  by_cases h : R < L.length
  · rw [decide_eq_true h, List.any_eq_true]
    exact ⟨_, getD_mem h, h3 h⟩
  · rw [decide_eq_false h, List.any_eq_false]
    intro c hc
    obtain ⟨j, hj, e⟩ := mem_getD hc
    have := h2 j (by omega)
    rw [atI_getD, e] at this
    rw [this]; decide

end Go.Proofs.Ytnhcmloaanamnaa
