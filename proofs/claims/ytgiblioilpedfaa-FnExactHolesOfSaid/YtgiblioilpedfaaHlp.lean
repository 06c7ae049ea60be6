/-
  What is proved here: cells at the edge of a field, groups that have one, and how many have none, in both packages' words. Conditions: none but those that each theorem names. Own text.
-/
import Derived.Test.YtgiblioilpedfaaSpp
namespace Go.Proofs.Ytgiblioilpedfaa
open Go.RowKit
set_option linter.unusedVariables false

/-- a cell at the edge has not all four sides -/
def brdB (x y c : Int) : Bool := decide ((sidL x y c).length < 4)
theorem sid_len (x y i : Int) : (sidL x y i).length = (if x ≤ i then 1 else 0) + (if 0 < i % x then 1 else 0) + (if i % x + 1 < x then 1 else 0) + (if i + x < x * y then 1 else 0) := by
  unfold sidL
  rw [List.length_append, List.length_append, List.length_append]
  congr 1
  · congr 1
    · congr 1
      · split <;> rfl
      · split <;> rfl
    · split <;> rfl
  · split <;> rfl
def brB (x y c : Int) : Bool := (c % x == 0) || ((c / x == 0) || ((c % x == x - 1) || (c / x == y - 1)))
theorem brd_is {x y c : Int} (hx : 1 ≤ x) (h0 : 0 ≤ c) (h1 : c < x * y) : brdB x y c = brB x y c := by
  obtain ⟨e, q0, q1, r0, r1⟩ := div_facts hx h0 h1
  have hup := up_iff hx h0 h1
  have hdn := down_iff hx h0 h1
  unfold brdB brB
  rw [sid_len, Bool.eq_iff_iff]
  simp only [decide_eq_true_eq, Bool.or_eq_true, beq_iff_eq]
  by_cases a : x ≤ c <;> by_cases b : 0 < c % x <;> by_cases d : c % x + 1 < x <;> by_cases f : c + x < x * y
  all_goals
    simp only [a, b, d, f, if_true, if_false]
    omega
/-- a group has a cell at the edge -/
def hlB (x y : Int) (G : List Int) : Bool := G.any (brdB x y)
/-- how many of the first groups have none -/
def hlN (x y : Int) (Gs : List (List Int)) : Nat → Nat
  | 0 => 0
  | k + 1 => if hlB x y (Gs.getD k []) = true then hlN x y Gs k else hlN x y Gs k + 1
theorem hlN_no {x y : Int} {Gs : List (List Int)} {k : Nat} (h : hlB x y (Gs.getD k []) = true) : hlN x y Gs (k + 1) = hlN x y Gs k := by show (if _ then _ else _) = _; rw [if_pos h]
theorem hlN_yes {x y : Int} {Gs : List (List Int)} {k : Nat} (h : hlB x y (Gs.getD k []) = false) : hlN x y Gs (k + 1) = hlN x y Gs k + 1 := by show (if _ then _ else _) = _; rw [h, if_neg (by decide)]
theorem hlN_le (x y : Int) (Gs : List (List Int)) (k : Nat) : hlN x y Gs k ≤ k := by
  induction k with
  | zero => exact Nat.le_refl _
  | succ k ih =>
    cases h : hlB x y (Gs.getD k []) with
    | true => rw [hlN_no h]; omega
    | false => rw [hlN_yes h]; omega
theorem hlN_all {x y : Int} {Gs : List (List Int)} : ∀ k, (∀ t, t < k → hlB x y (Gs.getD t []) = false) → hlN x y Gs k = k := by
  intro k
  induction k with
  | zero => intro _; rfl
  | succ k ih => intro h; rw [hlN_yes (h k (by omega)), ih fun t ht => h t (by omega)]
/-- an edge is told by the numbers -/
def edgQ (x y : Int) (Gs : List (List Int)) (k i : Nat) : Bool := brB x y i && (numG Gs (i : Int) == (k : Int))
theorem edg_is {p : Int → Bool} {nb : Int → List Int} {n k : Nat} {x y : Int} (H : NbOk n nb) (hx : 1 ≤ x) (hn : (n : Int) = x * y) (hk : k < (grsG p nb n n).length) :
    anyN (edgQ x y (grsG p nb n n) k) n = hlB x y ((grsG p nb n n).getD k []) := by
  rw [Bool.eq_iff_iff, anyN_iff]
  unfold hlB
  rw [List.any_eq_true]
  constructor
  · rintro ⟨j, hj, h⟩
    unfold edgQ at h
    rw [Bool.and_eq_true, beq_iff_eq, num_iff H n (Nat.le_refl _) k hk] at h
    exact ⟨_, h.2, by rw [brd_is hx (by omega) (by omega)]; exact h.1⟩
  · rintro ⟨c, hc, h⟩
    have h2 := grs_in H (Nat.le_refl _) hk c hc
    refine ⟨c.toNat, by omega, ?_⟩
    unfold edgQ
    rw [Bool.and_eq_true, beq_iff_eq, num_iff H n (Nat.le_refl _) k hk, Int.toNat_of_nonneg h2.1, ← brd_is hx h2.1 (by omega)]
    exact ⟨h, hc⟩

end Go.Proofs.Ytgiblioilpedfaa
