/-
  What is proved here: the runs of cells, of both packages, as walks. Conditions: at most 256 cells.
-/
import Derived.Test.YtnhcmloaanamnaaInb
import Derived.Test.YtnhcmloaanamnaaGru
import Derived.Laws.IdiomStrings
import Derived.Laws.BytesString
namespace Go.Proofs.Ytnhcmloaanamnaa
open Go.RowKit
set_option linter.unusedVariables false

/-- how long a run is, of at most m places -/
def runB (p : Nat → Bool) (f : Bool) (t : Nat) : Nat → Nat
  | 0 => 0
  | m + 1 => if p t = f then runB p f (t + 1) m + 1 else 0
theorem runB_yes {p : Nat → Bool} {f : Bool} {t m : Nat} (e : p t = f) : runB p f t (m + 1) = runB p f (t + 1) m + 1 := by
  conv => lhs; unfold runB
  rw [if_pos e]
theorem runB_no {p : Nat → Bool} {f : Bool} {t m : Nat} (e : ¬ p t = f) : runB p f t (m + 1) = 0 := by
  conv => lhs; unfold runB
  rw [if_neg e]
theorem runB_le (p : Nat → Bool) (f : Bool) (m : Nat) : ∀ t, runB p f t m ≤ m := by
  induction m with
  | zero => intro t; exact Nat.le_refl _
  | succ m ih =>
    intro t
    by_cases e : p t = f
    · rw [runB_yes e]
      have := ih (t + 1); omega
    · rw [runB_no e]; omega
theorem runB_all (p : Nat → Bool) (f : Bool) (m : Nat) : ∀ t j, j < runB p f t m → p (t + j) = f := by
  induction m with
  | zero => intro t j h; exact absurd h (Nat.not_lt_zero _)
  | succ m ih =>
    intro t j h
    by_cases e : p t = f
    · rw [runB_yes e] at h
      cases j with
      | zero => exact e
      | succ j => rw [show t + (j + 1) = t + 1 + j by omega]; exact ih (t + 1) j (by omega)
    · rw [runB_no e] at h
      exact absurd h (Nat.not_lt_zero _)
theorem runB_end (p : Nat → Bool) (f : Bool) (m : Nat) : ∀ t, runB p f t m < m → p (t + runB p f t m) = !f := by
  induction m with
  | zero => intro t h; exact absurd h (Nat.not_lt_zero _)
  | succ m ih =>
    intro t h
    by_cases e : p t = f
    · rw [runB_yes e] at h ⊢
      rw [show t + (runB p f (t + 1) m + 1) = t + 1 + runB p f (t + 1) m by omega]
      exact ih (t + 1) (by omega)
    · rw [runB_no e, Nat.add_zero]
      cases h1 : p t <;> cases f <;> simp_all
theorem runB_zero {p : Nat → Bool} {f : Bool} {t m : Nat} (h : runB p f t m = 0) (hm : 0 < m) : p t = !f := by
  have := runB_end p f m t (by omega)
  rwa [h, Nat.add_zero] at this

structure PSt where
  at' : Nat
  f : Bool
  out : List UInt8
def encR (r : Nat) : List UInt8 := if r < 255 then [UInt8.ofNat r] else [255, UInt8.ofNat (r - 255)]
theorem encR_len (r : Nat) : (encR r).length ≤ 2 := by unfold encR; split <;> simp
def pStep (p : Nat → Bool) (n : Nat) (s : PSt) : PSt := if s.at' < n then ⟨s.at' + runB p s.f s.at' (n - s.at'), !s.f, s.out ++ encR (runB p s.f s.at' (n - s.at'))⟩ else s
def pIt (p : Nat → Bool) (n : Nat) : Nat → PSt
  | 0 => ⟨0, false, []⟩
  | k + 1 => pStep p n (pIt p n k)
theorem pIt_go {p : Nat → Bool} {n k : Nat} (h : (pIt p n k).at' < n) : pIt p n (k + 1) = ⟨(pIt p n k).at' + runB p (pIt p n k).f (pIt p n k).at' (n - (pIt p n k).at'), !(pIt p n k).f, (pIt p n k).out ++ encR (runB p (pIt p n k).f (pIt p n k).at' (n - (pIt p n k).at'))⟩ := by
  show pStep p n (pIt p n k) = _
  unfold pStep
  rw [if_pos h]
theorem pIt_le (p : Nat → Bool) (n k : Nat) : (pIt p n k).at' ≤ n := by
  induction k with
  | zero => exact Nat.zero_le _
  | succ k ih =>
    show (pStep p n (pIt p n k)).at' ≤ n
    unfold pStep
    split
    · have := runB_le p (pIt p n k).f (n - (pIt p n k).at') (pIt p n k).at'
      dsimp only
      omega
    · exact ih
theorem pIt_len (p : Nat → Bool) (n k : Nat) : (pIt p n k).out.length ≤ 2 * k := by
  induction k with
  | zero => exact Nat.zero_le _
  | succ k ih =>
    show (pStep p n (pIt p n k)).out.length ≤ _
    unfold pStep
    split
    · have := encR_len (runB p (pIt p n k).f (pIt p n k).at' (n - (pIt p n k).at'))
      show ((pIt p n k).out ++ _).length ≤ _
      rw [List.length_append]
      omega
    · omega
/-- what is left to do -/
def pMu (p : Nat → Bool) (n : Nat) (t : Nat) (f : Bool) : Nat := 2 * (n - t) + (if p t = f then 0 else 1)
theorem pMu_lt {p : Nat → Bool} {n t : Nat} {f : Bool} (h : t < n) : pMu p n (t + runB p f t (n - t)) (!f) < pMu p n t f := by
  have hr := runB_le p f (n - t) t
  unfold pMu
  by_cases e : p t = f
  · rw [if_pos e]
    have h1 : runB p f t (n - t) ≠ 0 := fun h0 => by
      have := runB_zero h0 (by omega)
      rw [e] at this
      cases f <;> simp at this
    split <;> omega
  · have e2 : p t = !f := by cases h1 : p t <;> cases f <;> simp_all
    have h1 : runB p f t (n - t) = 0 := by
      obtain ⟨m, hm⟩ : ∃ m, n - t = m + 1 := ⟨n - t - 1, by omega⟩
      rw [hm]
      unfold runB
      rw [if_neg e]
    rw [h1, Nat.add_zero, if_pos e2, if_neg e]
    omega
theorem pIt_end (p : Nat → Bool) (n : Nat) : ∃ k, (pIt p n k).at' = n := by
  have key : ∀ m k, pMu p n (pIt p n k).at' (pIt p n k).f ≤ m → ∃ j, (pIt p n j).at' = n := by
    intro m
    induction m with
    | zero =>
      intro k h
      refine ⟨k, ?_⟩
      have := pIt_le p n k
      unfold pMu at h
      omega
    | succ m ih =>
      intro k h
      by_cases hk : (pIt p n k).at' < n
      · refine ih (k + 1) ?_
        rw [pIt_go hk]
        have := pMu_lt (p := p) (f := (pIt p n k).f) hk
        dsimp only
        omega
      · exact ⟨k, by have := pIt_le p n k; omega⟩
  exact key _ 0 (Nat.le_refl _)
theorem pIt_stay {p : Nat → Bool} {n k : Nat} (h : (pIt p n k).at' = n) (j : Nat) : pIt p n (k + j) = pIt p n k := by
  induction j with
  | zero => rfl
  | succ j ih =>
    show pStep p n (pIt p n (k + j)) = _
    rw [ih]
    unfold pStep
    rw [if_neg (by omega)]
theorem pIt_one {p : Nat → Bool} {n k j : Nat} (h : (pIt p n k).at' = n) (g : (pIt p n j).at' = n) : pIt p n k = pIt p n j := by
  rcases Nat.le_total k j with e | e
  · obtain ⟨d, rfl⟩ := Nat.exists_eq_add_of_le e
    exact (pIt_stay h d).symm
  · obtain ⟨d, rfl⟩ := Nat.exists_eq_add_of_le e
    exact pIt_stay g d
/-- the packed cells -/
def packU (p : Nat → Bool) (n : Nat) : List UInt8 := (pIt p n (2 * n + 2)).out
theorem pIt_mu (p : Nat → Bool) (n k : Nat) : (pIt p n k).at' = n ∨ k + pMu p n (pIt p n k).at' (pIt p n k).f ≤ 2 * n + 1 := by
  induction k with
  | zero =>
    right
    show 0 + pMu p n 0 false ≤ _
    unfold pMu
    split <;> omega
  | succ k ih =>
    rcases ih with h | h
    · left
      rw [show pIt p n (k + 1) = pIt p n k from pIt_stay h 1]
      exact h
    · by_cases hk : (pIt p n k).at' < n
      · right
        rw [pIt_go hk]
        have := pMu_lt (p := p) (f := (pIt p n k).f) hk
        dsimp only
        omega
      · left
        have := pIt_le p n k
        rw [show pIt p n (k + 1) = pIt p n k from pIt_stay (by omega) 1]
        omega
theorem packU_is {p : Nat → Bool} {n k : Nat} (h : (pIt p n k).at' = n) : (pIt p n k).out = packU p n := by
  have : (pIt p n (2 * n + 2)).at' = n := by
    rcases pIt_mu p n (2 * n + 2) with h | h
    · exact h
    · omega
  unfold packU
  rw [pIt_one h this]


end Go.Proofs.Ytnhcmloaanamnaa
