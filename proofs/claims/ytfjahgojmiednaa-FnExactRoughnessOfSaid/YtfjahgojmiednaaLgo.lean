/-
  What is proved here: LogsOf, of both packages, as walks. Conditions: at most 1048576 numbers.
-/
import Derived.Test.YtfjahgojmiednaaLgd
namespace Go.Proofs.Ytfjahgojmiednaa
open Flt Go.RowKit
attribute [local go_sem] run_store_float
set_option linter.unusedVariables false

/-- all are greater than nothing -/
def posAll (zs : List Nat) : Bool := zs.all posB
theorem posAll_no {zs : List Nat} {k : Nat} (hk : k < zs.length) (h : posB (at0 zs k) = false) : posAll zs = false := by
  unfold posAll
  rw [List.all_eq_false]
  refine ⟨at0 zs k, by rw [at0_lt hk]; exact List.getElem_mem hk, ?_⟩
  rw [h]; decide
theorem posAll_yes {zs : List Nat} (h : ∀ j, j < zs.length → posB (at0 zs j) = true) : posAll zs = true := by
  unfold posAll
  refine List.all_eq_true.2 fun x hx => ?_
  obtain ⟨j, hj, rfl⟩ := List.mem_iff_getElem.1 hx
  have := h j hj
  rwa [at0_lt hj] at this
theorem posAll_at {zs : List Nat} (h : posAll zs = true) {j : Nat} (hj : j < zs.length) : posB (at0 zs j) = true := by
  cases e : posB (at0 zs j) with
  | true => rfl
  | false => rw [posAll_no hj e] at h; cases h

/-- the logarithms of a list, where there are any -/
structure Lgs (zs : List Nat) (F : Nat → Option Nat) : Prop where
  fin : finAll zs = true
  sp : ∀ j, j < zs.length → posB (at0 zs j) = true → ∀ w, Calls Try.prog 43 #[.float .f32 (at0 zs j)] w (FPost .f32 (F j) w)
  im : ∀ j, j < zs.length → posB (at0 zs j) = true → ∀ w, Calls Try.prog 80 #[.float .f32 (at0 zs j)] w (FPost .f32 (F j) w)
theorem lgs_of {zs : List Nat} (h : finAll zs = true) : ∃ F, Lgs zs F := by
  have H : ∀ j, j < zs.length → ∃ c, posB (at0 zs j) = true → (∀ w, Calls Try.prog 43 #[.float .f32 (at0 zs j)] w (FPost .f32 c w)) ∧ (∀ w, Calls Try.prog 80 #[.float .f32 (at0 zs j)] w (FPost .f32 c w)) := by
    intro j hj
    cases hp : posB (at0 zs j) with
    | false => exact ⟨none, fun h => by cases h⟩
    | true =>
      obtain ⟨c, h1, h2⟩ := lg_both (at0 zs j) (by unfold abvB; rw [finAll_at h hj]; exact hp)
      exact ⟨c, fun _ => ⟨h1, h2⟩⟩
  obtain ⟨F, hF⟩ := Go.Deep.choose_lt (α := Option Nat) H
  exact ⟨F, h, fun j hj hp => (hF j hj hp).1, fun j hj hp => (hF j hj hp).2⟩

def cntB (b : Bool) (n : Nat) : Nat := if b = true then n else 0






end Go.Proofs.Ytfjahgojmiednaa
