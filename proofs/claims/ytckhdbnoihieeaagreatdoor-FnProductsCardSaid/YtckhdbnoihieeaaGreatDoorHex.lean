/-
  What is proved here: hexadecimal digits of 32-bit words. Conditions: as each theorem names. Own text; no dump.
-/
import Derived.WalkKit
import Derived.Lib.Hide
import Derived.Lib.QuoteHex
namespace Go.Proofs.YtckhdbnoihieeaaGreatDoor

/-- a digit -/
def digH (m : Nat) : UInt8 := UInt8.ofNat (if m < 10 then 48 + m else 87 + m)
theorem digH_val {m : Nat} (h : m < 16) : ((digH m).toNat : Int) = if m < 10 then 48 + (m : Int) else 87 + (m : Int) := by
  unfold digH
  split
  · rw [UInt8.toNat_ofNat', Nat.mod_eq_of_lt (by omega)]; omega
  · rw [UInt8.toNat_ofNat', Nat.mod_eq_of_lt (by omega)]; omega

/-- k digits -/
def hexN : Nat → Nat → List UInt8
  | 0, _ => []
  | k + 1, n => hexN k (n / 16) ++ [digH (n % 16)]
theorem hexN_length : ∀ (k n : Nat), (hexN k n).length = k
  | 0, _ => rfl
  | k + 1, n => by rw [hexN, List.length_append, hexN_length k]; rfl

/-- as few digits as there can be -/
def hexMin (n : Nat) : List UInt8 := if n < 16 then [digH n] else hexMin (n / 16) ++ [digH (n % 16)]
termination_by n
decreasing_by omega
theorem hexMin_small {n : Nat} (h : n < 16) : hexMin n = [digH n] := by rw [hexMin, if_pos h]
theorem hexMin_big {n : Nat} (h : ¬ n < 16) : hexMin n = hexMin (n / 16) ++ [digH (n % 16)] := by rw [hexMin, if_neg h]
theorem hexMin_length : ∀ (k n : Nat), n < 16 ^ (k + 1) → 1 ≤ (hexMin n).length ∧ (hexMin n).length ≤ k + 1
  | 0, n, h => by
    have h : n < 16 := by simpa using h
    rw [hexMin_small h]; exact ⟨Nat.le_refl _, Nat.le_refl _⟩
  | k + 1, n, h => by
    by_cases hs : n < 16
    · rw [hexMin_small hs]; exact ⟨Nat.le_refl _, by simp⟩
    · have h2 : n / 16 < 16 ^ (k + 1) := by
        rw [Nat.pow_succ] at h
        exact Nat.div_lt_of_lt_mul (by rw [Nat.mul_comm]; exact h)
      have := hexMin_length k _ h2
      rw [hexMin_big hs, List.length_append]
      simp
      omega
theorem hexN_pad : ∀ (k n : Nat), n < 16 ^ (k + 1) → hexN (k + 1) n = List.replicate (k + 1 - (hexMin n).length) 48 ++ hexMin n
  | 0, n, h => by
    have h : n < 16 := by simpa using h
    rw [hexMin_small h]
    show hexN 0 (n / 16) ++ [digH (n % 16)] = _
    rw [Nat.mod_eq_of_lt h]; rfl
  | k + 1, n, h => by
    have h2 : n / 16 < 16 ^ (k + 1) := by
      rw [Nat.pow_succ] at h
      exact Nat.div_lt_of_lt_mul (by rw [Nat.mul_comm]; exact h)
    have ih := hexN_pad k _ h2
    show hexN (k + 1) (n / 16) ++ [digH (n % 16)] = _
    rw [ih]
    by_cases hs : n < 16
    · have e : n / 16 = 0 := Nat.div_eq_of_lt hs
      rw [hexMin_small hs, e, hexMin_small (by decide), Nat.mod_eq_of_lt hs]
      show List.replicate k 48 ++ [48] ++ [digH n] = List.replicate (k + 1) 48 ++ [digH n]
      rw [List.replicate_succ']
    · rw [hexMin_big hs, List.length_append, List.append_assoc]
      congr 2
      simp

/-- 8 digits, as far as they have been told -/
theorem hexN_step (j n : Nat) (h : j < 8) : hexN (j + 1) (n / 16 ^ (7 - j)) = hexN j (n / 16 ^ (8 - j)) ++ [digH (n / 16 ^ (7 - j) % 16)] := by
  show hexN j (n / 16 ^ (7 - j) / 16) ++ _ = _
  rw [Nat.div_div_eq_div_mul, ← Nat.pow_succ, show (7 - j).succ = 8 - j by omega]

/-! and read -/
def valH (c : UInt8) : Option Nat := if 48 ≤ c.toNat ∧ c.toNat ≤ 57 then some (c.toNat - 48) else if 97 ≤ c.toNat ∧ c.toNat ≤ 102 then some (c.toNat - 87) else none
def hexF (a : Option Nat) (c : UInt8) : Option Nat := a.bind fun n => (valH c).map fun d => 16 * n + d
def hexR (l : List UInt8) : Option Nat := l.foldl hexF (some 0)
theorem valH_digH {m : Nat} (h : m < 16) : valH (digH m) = some m := by
  have := digH_val h
  unfold valH
  split at this
  · rw [if_pos (by omega)]; congr 1; omega
  · rw [if_neg (by omega), if_pos (by omega)]; congr 1; omega
theorem valH_lt {c : UInt8} {d : Nat} (h : valH c = some d) : d < 16 := by
  unfold valH at h
  split at h
  · injection h with h; omega
  · split at h
    · injection h with h; omega
    · cases h
theorem hexR_snoc (l : List UInt8) (c : UInt8) : hexR (l ++ [c]) = hexF (hexR l) c := by unfold hexR; rw [List.foldl_append]; rfl
theorem hexR_hexN : ∀ (k n : Nat), n < 16 ^ k → hexR (hexN k n) = some n
  | 0, n, h => by
    have : n = 0 := by simpa using h
    subst this; rfl
  | k + 1, n, h => by
    rw [hexN, hexR_snoc, hexR_hexN k (n / 16) (by rw [Nat.pow_succ] at h; exact Nat.div_lt_of_lt_mul (by rw [Nat.mul_comm]; exact h))]
    unfold hexF
    rw [valH_digH (Nat.mod_lt _ (by decide))]
    show some (16 * (n / 16) + n % 16) = some n
    rw [Nat.div_add_mod]
theorem hexR_none (l : List UInt8) : List.foldl hexF none l = none := by
  induction l with
  | nil => rfl
  | cons c l ih => exact ih
theorem hexR_lt : ∀ (l : List UInt8) (a n : Nat), l.foldl hexF (some a) = some n → n < 16 ^ l.length * (a + 1)
  | [], a, n, h => by injection h with h; subst h; simp
  | c :: l, a, n, h => by
    rw [List.foldl_cons] at h
    unfold hexF at h
    cases hv : valH c with
    | none => rw [hv] at h; exact absurd (hexR_none l ▸ h : (none : Option Nat) = some n) (by simp)
    | some d =>
      rw [hv] at h
      have hd := valH_lt hv
      have := hexR_lt l (16 * a + d) n h
      rw [List.length_cons, Nat.pow_succ, Nat.mul_assoc]
      exact Nat.lt_of_lt_of_le this (Nat.mul_le_mul_left _ (by omega))
theorem hexR_stop {p : List UInt8} {c : UInt8} (r : List UInt8) (h : valH c = none) : hexR (p ++ c :: r) = none := by
  unfold hexR
  rw [List.foldl_append, List.foldl_cons]
  have : hexF (List.foldl hexF (some 0) p) c = none := by
    cases hq : List.foldl hexF (some 0) p with
    | none => rfl
    | some n => simp [hexF, h]
  rw [this]
  exact hexR_none r

end Go.Proofs.YtckhdbnoihieeaaGreatDoor
