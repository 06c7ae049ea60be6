/-
  What is proved here: how a word is ordered against 0. Conditions: it is no not-a-number. Own text; no dump.
-/
import Derived.Test.YtnhcmloaanamnaaNum
namespace Go.Proofs.Ytnhcmloaanamnaa
open Flt

theorem V_zero_iff {B w : Nat} (hB : 0 < B) : V B w = 0 ↔ w = 0 := by
  constructor
  · intro h
    rcases Nat.eq_zero_or_pos w with h0 | h0
    · exact h0
    · have := V_lt hB h0
      omega
  · rintro rfl; simp [V, hB]
theorem sV_zero (k : FloatKind) : sV k 0 = 0 := by
  rw [sV_pos (Nat.two_pow_pos _), (V_zero_iff (B := k.format.binade) (Nat.two_pow_pos _)).2 rfl]; rfl

/-- which side of zero -/
def side (k : FloatKind) (x : Nat) : Ordering := if x % k.format.signWeight = 0 then .eq else if (x / k.format.signWeight % 2 == 1) = true then .lt else .gt

theorem ord0 {k : FloatKind} {x : Nat} (hn : nanW k x = false) : k.format.order x 0 = some (side k x) := by
  have hB : 0 < k.format.binade := Nat.two_pow_pos _
  have hb := binade_le k
  unfold side
  rcases three k x with h1 | h1 | h1
  · rw [order_sV h1 (by rw [Nat.zero_mod]; omega), sV_zero]
    by_cases h0 : x % k.format.signWeight = 0
    · rw [if_pos h0]
      unfold sV
      rw [h0, (V_zero_iff hB).2 rfl]
      simp
    · rw [if_neg h0]
      have hv : V k.format.binade (x % k.format.signWeight) ≠ 0 := fun h => h0 ((V_zero_iff hB).1 h)
      unfold sV
      generalize V k.format.binade (x % k.format.signWeight) = v at *
      cases (x / k.format.signWeight % 2 == 1)
      · simp only [Bool.false_eq_true, if_false, compare, compareOfLessAndEq]; rw [if_neg (by omega), if_neg (by omega)]
      · simp only [if_true, compare, compareOfLessAndEq]; rw [if_pos (by omega)]
  · have h2 : (k.format.order x 0) = (Ieee.Datum.infinity (x / k.format.signWeight % 2 == 1)).order (k.format.read 0) := by show (k.format.read x).order _ = _; rw [read_inf h1]
    obtain ⟨m, d, hr, _⟩ := read_V (k := k) (w := 0) (by rw [Nat.zero_mod]; omega)
    rw [h2, hr, if_neg (by omega)]
    cases (x / k.format.signWeight % 2 == 1) <;> rfl
  · rw [nanW_of_lt h1] at hn; cases hn

end Go.Proofs.Ytnhcmloaanamnaa
