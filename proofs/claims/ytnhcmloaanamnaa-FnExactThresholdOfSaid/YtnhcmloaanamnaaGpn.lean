/-
  What is proved here: the sides of the cells of a field lie in it, and lead back; groups of a field. Conditions: none but those that each theorem names. Own text.
-/
import Derived.Test.YtnhcmloaanamnaaGpu
import Derived.Test.YtnhcmloaanamnaaGpw
import Derived.Test.YtnhcmloaanamnaaSdk
namespace Go.Proofs.Ytnhcmloaanamnaa
open Go.RowKit
set_option linter.unusedVariables false

theorem modq {x q r : Int} (h0 : 0 ≤ r) (h1 : r < x) : (x * q + r) % x = r := by
  rw [Int.add_comm, Int.add_mul_emod_self_left]
  exact Int.emod_eq_of_lt h0 h1
theorem sidL_sym {x y i : Int} (hx : 1 ≤ x) (h0 : 0 ≤ i) (hi : i < x * y) : ∀ s ∈ sidL x y i, i ∈ sidL x y s := by
  obtain ⟨e, q0, q1, r0, r1⟩ := div_facts hx h0 hi
  intro s hs
  unfold sidL at hs
  rw [List.mem_append, List.mem_append, List.mem_append] at hs
  unfold sidL
  rw [List.mem_append, List.mem_append, List.mem_append]
  rcases hs with ((h | h) | h) | h
  · split at h
    · rw [List.mem_singleton] at h; subst h
      right
      rw [if_pos (by omega), List.mem_singleton]; omega
    · cases h
  · split at h
    · rw [List.mem_singleton] at h; subst h
      have m : (i - 1) % x = i % x - 1 := by
        have := modq (x := x) (q := i / x) (r := i % x - 1) (by omega) (by omega)
        rw [← this]; congr 1; omega
      refine .inl (.inr ?_)
      rw [m, if_pos (by omega), List.mem_singleton]; omega
    · cases h
  · split at h
    · rw [List.mem_singleton] at h; subst h
      have m : (i + 1) % x = i % x + 1 := by
        have := modq (x := x) (q := i / x) (r := i % x + 1) (by omega) (by omega)
        rw [← this]; congr 1; omega
      refine .inl (.inl (.inr ?_))
      rw [m, if_pos (by omega), List.mem_singleton]; omega
    · cases h
  · split at h
    · rw [List.mem_singleton] at h; subst h
      refine .inl (.inl (.inl ?_))
      rw [if_pos (by omega), List.mem_singleton]; omega
    · cases h
theorem nb_ok {x y : Int} {n : Nat} (hx : 1 ≤ x) (hn : (n : Int) = x * y) : NbOk n (sidL x y) :=
  ⟨fun a h0 h1 b hb => by have := sidL_mem hx h0 (by omega) b hb; omega, fun a h0 h1 b hb => sidL_sym hx h0 (by omega) b hb⟩
theorem atI_getD (L : List Int) (j : Nat) : atI L j = L.getD j 0 := rfl

/-- a cell is full, or not, as asked -/
def pqF (p : Nat → Bool) (full : Bool) (b : Int) : Bool := p b.toNat == full
theorem pqF_nat (p : Nat → Bool) (full : Bool) (j : Nat) : pqF p full (j : Int) = (p j == full) := by unfold pqF; rw [Int.toNat_natCast]
/-- the groups of a field, and of its first cells -/
def gsF (p : Nat → Bool) (full : Bool) (x y : Int) (n i : Nat) : List (List Int) := grsG (pqF p full) (sidL x y) n i
/-- looked past the groups before -/
def qsF (p : Nat → Bool) (full : Bool) (x y : Int) (n i : Nat) (b : Int) : Bool := pqF p full b && !inGs (gsF p full x y n i) b
theorem vis_len_le (q : Int → Bool) (L bs : List Int) (j : Nat) : (visG q L (bs.take j)).length ≤ (visG q L bs).length := by
  have e : visG q L bs = visG q (visG q L (bs.take j)) (bs.drop j) := by
    unfold visG
    rw [← List.foldl_append, List.take_append_drop]
  obtain ⟨r, hr⟩ := vis_pre q (bs.drop j) (visG q L (bs.take j))
  rw [e, hr, List.length_append]; omega

end Go.Proofs.Ytnhcmloaanamnaa
