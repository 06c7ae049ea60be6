/-
  What is proved here: the edge of a growing field, told by its cells; how a field grows at its edge, round after round, told as functions. Conditions: a valid size.
-/
import Derived.Test.YthhimielelpcoaaEdf
import Derived.Test.YthhimielelpcoaaGpn
namespace Go.Proofs.Ythhimielelpcoaa
open Go.RowKit
set_option linter.unusedVariables false

/-- a cell is in the edge: not full, and a side of it is -/
def edg (x y : Int) (q : Nat → Bool) : Nat → Bool := fun k => !q k && decide (0 < fulS q x y k)

theorem fiE_ext {S : List Int} {q e g : Nat → Bool} {c k : Nat} (h : e k = g k) : fiE S q e c k = fiE S q g c k := by unfold fiE; rw [h]
theorem edg_none (x y : Int) (k : Nat) : edg x y (fun _ => false) k = false := by
  unfold edg
  have : ¬ 0 < fulS (fun _ => false) x y k := fun h => by
    obtain ⟨s, _, h2⟩ := (fulS_pos _ _ _ _).1 h
    cases h2
  rw [decide_eq_false this]; rfl
theorem edg_fill {x y : Int} {n c k : Nat} {q : Nat → Bool} (hx : 1 ≤ x) (hn : (n : Int) = x * y) (hc : c < n) (hk : k < n) : fiE (sidL x y c) (fiP q c) (edg x y q) c k = edg x y (fiP q c) k := by
  by_cases e : k = c
  · subst e
    unfold fiE edg fiP
    simp
  · have h1 : fiP q c k = q k := by unfold fiP; rw [decide_eq_false e]; rfl
    unfold fiE edg
    rw [h1, decide_eq_false e]
    cases hq : q k with
    | true => simp
    | false =>
      have hs : (sidL x y c).contains (k : Int) = true ↔ (c : Int) ∈ sidL x y k := by
        rw [List.contains_iff_mem]
        exact ⟨fun h => sidL_sym hx (by omega) (by omega) _ h, fun h => sidL_sym hx (by omega) (by omega) _ h⟩
      rw [Bool.eq_iff_iff]
      simp only [Bool.not_false, Bool.and_true, Bool.true_and, Bool.or_eq_true, decide_eq_true_eq, hs, fulS_pos]
      constructor
      · rintro (h | ⟨s, h1, h2⟩)
        · exact ⟨c, h, by unfold fiP; simp⟩
        · exact ⟨s, h1, by unfold fiP; rw [h2, Bool.or_true]⟩
      · rintro ⟨s, h1, h2⟩
        unfold fiP at h2
        rw [Bool.or_eq_true, decide_eq_true_eq] at h2
        rcases h2 with h2 | h2
        · have := (sidL_mem hx (by omega) (by omega) _ h1).1
          have : s = (c : Int) := by omega
          subst this
          exact .inl h1
        · exact .inr ⟨s, h1, h2⟩

/-- so many full cells filled, one after another -/
def frQ (L : List Int) : Nat → Bool := fun k => L.contains (k : Int)
theorem frQ_snoc {L : List Int} {c k : Nat} : frQ (L ++ [(c : Int)]) k = fiP (frQ L) c k := by
  unfold frQ fiP
  by_cases e : k = c
  · subst e; simp
  · have : ¬ (k : Int) = (c : Int) := by omega
    simp [e, this]
theorem frQ_ful {p : Nat → Bool} {n k : Nat} (hk : k < n) : frQ (fulL p n) k = p k := by
  unfold frQ
  rw [Bool.eq_iff_iff, List.contains_iff_mem, fulL_mem]
  exact ⟨fun ⟨i, h1, h2, h3⟩ => by obtain rfl : k = i := by omega
                                   exact h3, fun h => ⟨k, rfl, hk, h⟩⟩

/-- the edge's cells, in order -/
def edL (x y : Int) (n : Nat) (q : Nat → Bool) : List Int := fulL (edg x y q) n
/-- the cell that is drawn -/
def edC (x y : Int) (n : Nat) (q : Nat → Bool) (s : Int) : Nat := (atI (edL x y n q) (drawS s (edL x y n q).length).toNat).toNat
/-- the field and the seed after so many rounds -/
def grJ (x y : Int) (n : Nat) (p : Nat → Bool) (s : Int) : Nat → (Nat → Bool) × Int
  | 0 => (p, s)
  | j + 1 => (fiP (grJ x y n p s j).1 (edC x y n (grJ x y n p s j).1 (grJ x y n p s j).2), nextS (grJ x y n p s j).2)
/-- no round before has found its edge without a cell -/
def grB (x y : Int) (n : Nat) (p : Nat → Bool) (s : Int) : Nat → Bool
  | 0 => true
  | j + 1 => grB x y n p s j && decide (0 < (edL x y n (grJ x y n p s j).1).length)
theorem grB_no {x y : Int} {n : Nat} {p : Nat → Bool} {s : Int} {j : Nat} (h : grB x y n p s j = false) : ∀ k, grB x y n p s (j + k) = false
  | 0 => h
  | k + 1 => by
    show (grB x y n p s (j + k) && _) = false
    rw [grB_no h k]; rfl
theorem grB_stop {x y : Int} {n m : Nat} {p : Nat → Bool} {s : Int} {j : Nat} (h : (edL x y n (grJ x y n p s j).1).length = 0) (hj : j < m) : grB x y n p s m = false := by
  have h1 : grB x y n p s (j + 1) = false := by
    show (_ && decide (0 < (edL x y n (grJ x y n p s j).1).length)) = false
    rw [h]; simp
  have h2 := grB_no h1 (m - (j + 1))
  rwa [show j + 1 + (m - (j + 1)) = m by omega] at h2
theorem grB_go {x y : Int} {n : Nat} {p : Nat → Bool} {s : Int} {j : Nat} (h : grB x y n p s j = true) (h2 : 0 < (edL x y n (grJ x y n p s j).1).length) : grB x y n p s (j + 1) = true := by
  show (_ && _) = true
  rw [h, decide_eq_true h2]; rfl
theorem edC_lt {x y : Int} {n : Nat} {q : Nat → Bool} {s : Int} (h : 0 < (edL x y n q).length) (h2 : 0 ≤ drawS s (edL x y n q).length ∧ drawS s (edL x y n q).length < ((edL x y n q).length : Int)) :
    edC x y n q s < n ∧ atI (edL x y n q) (drawS s (edL x y n q).length).toNat = (edC x y n q s : Int) := by
  have h3 : (drawS s (edL x y n q).length).toNat < (edL x y n q).length := by omega
  obtain ⟨i, h4, h5, _⟩ := fulL_mem.1 (getD_mem h3)
  have h6 : atI (edL x y n q) (drawS s (edL x y n q).length).toNat = (i : Int) := h4
  unfold edC
  rw [h6]
  exact ⟨by omega, by omega⟩
/-- a seed stays one -/
theorem grJ_seed {x y : Int} {n : Nat} {p : Nat → Bool} {s : Int} (h : 0 ≤ s ∧ s ≤ 2147483647) : ∀ j, 0 ≤ (grJ x y n p s j).2 ∧ (grJ x y n p s j).2 ≤ 2147483647
  | 0 => h
  | j + 1 => nextS_bd _
end Go.Proofs.Ythhimielelpcoaa
