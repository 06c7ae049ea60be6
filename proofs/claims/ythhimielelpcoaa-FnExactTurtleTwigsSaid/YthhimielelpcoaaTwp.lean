/-
  What is proved here: a turtle's twigs as functions of its word, with what it remembers. Conditions: none but those that each theorem names.
-/
import Derived.Test.YthhimielelpcoaaTrq
namespace Go.Proofs.Ythhimielelpcoaa
open Flt Go.RowKit
set_option linter.unusedVariables false
set_option linter.unusedSimpArgs false

/-- a turtle: its turn, its place, what it remembers, where its moves began and ended -/
structure TwS where
  now : Option Nat
  at' : OC
  rem : List (Option Nat × OC)
  fro : List OC
  to' : List OC
/-- a letter; none where nothing is remembered -/
def twN (PF : Option Nat → OC) (T S : Option Nat) (L : Nat) (z : TwS) : Option TwS :=
  if L = 93 then z.rem.getLast?.map fun k => ⟨k.1, k.2, z.rem.dropLast, z.fro, z.to'⟩
  else if L = 91 then some ⟨z.now, z.at', z.rem ++ [(z.now, z.at')], z.fro, z.to'⟩
  else if movB L = true then some ⟨z.now, (fwd (PF z.now).1 z.at'.1 S, fwd (PF z.now).2 z.at'.2 S), z.rem, z.fro ++ [z.at'], z.to' ++ [(fwd (PF z.now).1 z.at'.1 S, fwd (PF z.now).2 z.at'.2 S)]⟩
  else some ⟨trnO L z.now T, z.at', z.rem, z.fro, z.to'⟩
def twA (PF : Option Nat → OC) (s : ByteArray) (T S : Option Nat) : Nat → Option TwS
  | 0 => some ⟨some 0, (some 0, some 0), [], [], []⟩
  | j + 1 => (twA PF s T S j).bind (twN PF T S (ltr s j))
def finC (p : OC) : Bool := finO p.1 && finO p.2
theorem twA_none {PF : Option Nat → OC} {s : ByteArray} {T S : Option Nat} {j : Nat} (h : twA PF s T S j = none) : ∀ d, twA PF s T S (j + d) = none
  | 0 => h
  | d + 1 => by
    show (twA PF s T S (j + d)).bind _ = none
    rw [twA_none h d]; rfl
/-- what a letter keeps: the lines grow, and stay finite if the places are -/
theorem twN_to {PF : Option Nat → OC} {T S : Option Nat} {L : Nat} {z z' : TwS} (h : twN PF T S L z = some z') : (z'.to' = z.to' ∧ z'.fro = z.fro) ∨ (z'.to' = z.to' ++ [z'.at'] ∧ z'.fro = z.fro ++ [z.at']) := by
  unfold twN at h
  split at h
  · cases hl : z.rem.getLast? with
    | none => rw [hl] at h; cases h
    | some k => rw [hl] at h; injection h with h; rw [← h]; exact .inl ⟨rfl, rfl⟩
  · split at h
    · injection h with h; rw [← h]; exact .inl ⟨rfl, rfl⟩
    · split at h
      · injection h with h; rw [← h]; exact .inr ⟨rfl, rfl⟩
      · injection h with h; rw [← h]; exact .inl ⟨rfl, rfl⟩
theorem twA_pre {PF : Option Nat → OC} {s : ByteArray} {T S : Option Nat} {j : Nat} : ∀ d z', twA PF s T S (j + d) = some z' → ∃ z M, twA PF s T S j = some z ∧ z'.to' = z.to' ++ M
  | 0, z', h => ⟨z', [], h, by simp⟩
  | d + 1, z', h => by
    have h2 : (twA PF s T S (j + d)).bind (twN PF T S (ltr s (j + d))) = some z' := h
    cases h3 : twA PF s T S (j + d) with
    | none => rw [h3] at h2; cases h2
    | some z1 =>
      rw [h3] at h2
      obtain ⟨z, M, h4, h5⟩ := twA_pre d z1 h3
      rcases twN_to h2 with ⟨e, _⟩ | ⟨e, _⟩
      · exact ⟨z, M, h4, by rw [e, h5]⟩
      · exact ⟨z, M ++ [z'.at'], h4, by rw [e, h5, List.append_assoc]⟩
/-- the twigs are ones -/
def twOk (PF : Option Nat → OC) (s : ByteArray) (T S : Option Nat) : Bool :=
  wordB s 4000 && finO T && finO S && (match twA PF s T S s.size with
    | none => false
    | some z => decide (z.rem = []) && decide (z.to'.length ≤ 256) && z.fro.all finC && z.to'.all finC)
/-- where moves begin are places where moves ended, or the first: finite if those are -/
def TwF (z : TwS) : Prop := z.to'.all finC = true → finC z.at' = true ∧ z.fro.all finC = true ∧ ∀ k ∈ z.rem, finC k.2 = true
theorem twN_fin {PF : Option Nat → OC} {T S : Option Nat} {L : Nat} {z z' : TwS} (h : twN PF T S L z = some z') (hz : TwF z) : TwF z' := by
  intro ha
  unfold twN at h
  split at h
  · cases hl : z.rem.getLast? with
    | none => rw [hl] at h; cases h
    | some k =>
      rw [hl] at h
      injection h with h
      subst h
      obtain ⟨h1, h2, h3⟩ := hz ha
      exact ⟨h3 k (List.mem_of_getLast? hl), h2, fun q hq => h3 q ((List.dropLast_sublist _).subset hq)⟩
  · split at h
    · injection h with h
      subst h
      obtain ⟨h1, h2, h3⟩ := hz ha
      refine ⟨h1, h2, fun q hq => ?_⟩
      rcases List.mem_append.1 hq with hq | hq
      · exact h3 q hq
      · rw [List.mem_singleton] at hq; subst hq; exact h1
    · split at h
      · injection h with h
        subst h
        have ha2 : (z.to' ++ [_]).all finC = true := ha
        rw [List.all_append, Bool.and_eq_true] at ha2
        obtain ⟨h1, h2, h3⟩ := hz ha2.1
        refine ⟨by simpa using ha2.2, ?_, h3⟩
        show (z.fro ++ [z.at']).all finC = true
        rw [List.all_append, h2]; simpa using h1
      · injection h with h
        subst h
        exact hz ha
theorem twA_fin {PF : Option Nat → OC} {s : ByteArray} {T S : Option Nat} : ∀ j z, twA PF s T S j = some z → TwF z
  | 0, z, h => by
    injection h with h
    subst h
    exact fun _ => ⟨by decide, rfl, fun k hk => by cases hk⟩
  | j + 1, z, h => by
    have h2 : (twA PF s T S j).bind (twN PF T S (ltr s j)) = some z := h
    cases h3 : twA PF s T S j with
    | none => rw [h3] at h2; cases h2
    | some z1 => rw [h3] at h2; exact twN_fin h2 (twA_fin j z1 h3)
end Go.Proofs.Ythhimielelpcoaa
