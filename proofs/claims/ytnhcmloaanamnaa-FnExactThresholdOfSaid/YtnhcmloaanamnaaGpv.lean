/-
  What is proved here: a cell has the number of a group just if it is in that group. Conditions: sides lie in the field and lead back. Own text; no dump.
-/
import Derived.Test.YtnhcmloaanamnaaGpu
namespace Go.Proofs.Ytnhcmloaanamnaa
set_option linter.unusedVariables false

theorem getD_snoc {α : Type} (L : List α) (u d : α) (k : Nat) (hk : k < L.length + 1) : (L ++ [u]).getD k d = if k = L.length then u else L.getD k d := by
  rw [List.getD_eq_getElem?_getD, List.getD_eq_getElem?_getD]
  by_cases e : k = L.length
  · subst e
    rw [if_pos rfl, List.getElem?_append_right (Nat.le_refl _)]; simp
  · rw [if_neg e, List.getElem?_append_left (by omega)]
theorem getD_memG {Gs : List (List Int)} {k : Nat} (h : k < Gs.length) : Gs.getD k [] ∈ Gs := by
  rw [List.getD_eq_getElem?_getD, List.getElem?_eq_getElem h]
  exact List.getElem_mem h
theorem num_iff {p : Int → Bool} {nb : Int → List Int} {N : Nat} (H : NbOk N nb) : ∀ i, i ≤ N → ∀ k, k < (grsG p nb N i).length → ∀ b, (numG (grsG p nb N i) b = (k : Int) ↔ b ∈ (grsG p nb N i).getD k []) := by
  intro i
  induction i with
  | zero => intro _ k hk; exact absurd hk (Nat.not_lt_zero _)
  | succ i ih =>
    intro hi k hk b
    cases hc : (p i && !inGs (grsG p nb N i) i) with
    | false =>
      rw [grs_no hc] at hk ⊢
      exact ih (by omega) k hk b
    | true =>
      rw [grs_yes hc] at hk ⊢
      rw [List.length_append, List.length_singleton] at hk
      rw [numG_snoc, getD_snoc _ _ _ _ hk]
      have hcc := hc
      rw [Bool.and_eq_true, Bool.not_eq_true'] at hcc
      have hold := (seq_same H (by omega) hcc.1 hcc.2 N).2
      have hlt := numG_lt b (grsG p nb N i)
      by_cases e : k = (grsG p nb N i).length
      · rw [if_pos e]
        cases hg : (grpG p nb N i).contains b with
        | true => rw [if_pos rfl]; exact ⟨fun _ => List.contains_iff_mem.1 hg, fun _ => by rw [e]⟩
        | false =>
          rw [if_neg (by decide)]
          refine ⟨fun h => ?_, fun h => ?_⟩
          · omega
          · rw [List.contains_iff_mem.2 h] at hg; cases hg
      · rw [if_neg e]
        have hk2 : k < (grsG p nb N i).length := by omega
        cases hg : (grpG p nb N i).contains b with
        | true =>
          rw [if_pos rfl]
          refine ⟨fun h => by omega, fun h => ?_⟩
          have h1 := hold b (List.contains_iff_mem.1 hg)
          have h2 : inGs (grsG p nb N i) b = true := inGs_mem.2 ⟨_, getD_memG hk2, h⟩
          rw [h1] at h2; cases h2
        | false => rw [if_neg (by decide)]; exact ih (by omega) k hk2 b
theorem grs_in {p : Int → Bool} {nb : Int → List Int} {N : Nat} (H : NbOk N nb) {i k : Nat} (hi : i ≤ N) (hk : k < (grsG p nb N i).length) : ∀ b ∈ (grsG p nb N i).getD k [], 0 ≤ b ∧ b < N := by
  obtain ⟨j, hj, e, _⟩ := grs_mem (getD_memG hk)
  rw [e]
  exact seq_in H (Int.natCast_nonneg j) (by omega) N
theorem grs_glen {p : Int → Bool} {nb : Int → List Int} {N : Nat} (H : NbOk N nb) {i k : Nat} (hi : i ≤ N) (hk : k < (grsG p nb N i).length) : ((grsG p nb N i).getD k []).length ≤ N := by
  obtain ⟨j, hj, e, _⟩ := grs_mem (getD_memG hk)
  rw [e]
  exact seq_le H (Int.natCast_nonneg j) (by omega) N

end Go.Proofs.Ytnhcmloaanamnaa
