/-
  What is proved here: how words of floating-point numbers are ordered: of two that have no sign, the greater word is the greater number; where the sign differs the signed one is not greater. Conditions: words up to infinity's. Own text; no dump.
-/
import Derived.Test.YtnhcmloaanamnaaFlt
namespace Go.Proofs.Ytnhcmloaanamnaa
namespace Flt
open Ieee

/-- a rung's number, in units of the least place -/
def V (B w : Nat) : Nat := if w < B then w else (B + w % B) * 2 ^ (w / B - 1)

theorem V_lt {B a b : Nat} (hB : 0 < B) (h : a < b) : V B a < V B b := by
  unfold V
  by_cases hb : b < B
  · rw [if_pos (by omega), if_pos hb]; exact h
  · rw [if_neg hb]
    have hqb : 1 ≤ b / B := (Nat.le_div_iff_mul_le hB).2 (by omega)
    have hbb : B ≤ (B + b % B) * 2 ^ (b / B - 1) := by
      have := Nat.two_pow_pos (b / B - 1)
      exact Nat.le_trans (Nat.le_add_right B (b % B)) (Nat.le_mul_of_pos_right _ this)
    by_cases ha : a < B
    · rw [if_pos ha]; omega
    · rw [if_neg ha]
      have hqa : 1 ≤ a / B := (Nat.le_div_iff_mul_le hB).2 (by omega)
      have hle : a / B ≤ b / B := Nat.div_le_div_right (Nat.le_of_lt h)
      rcases Nat.lt_or_eq_of_le hle with hlt | heq
      · have h1 : (B + a % B) * 2 ^ (a / B - 1) < B * 2 ^ (a / B) := by
          have hm := Nat.mod_lt a hB
          have e : B * 2 ^ (a / B) = (2 * B) * 2 ^ (a / B - 1) := by
            have : 2 ^ (a / B) = 2 * 2 ^ (a / B - 1) := by rw [← Nat.pow_succ']; congr 1; omega
            rw [this, ← Nat.mul_assoc, Nat.mul_comm B 2]
          rw [e]
          exact Nat.mul_lt_mul_of_pos_right (by omega) (Nat.two_pow_pos _)
        have h2 : B * 2 ^ (a / B) ≤ B * 2 ^ (b / B - 1) := Nat.mul_le_mul_left _ (Nat.pow_le_pow_right (by decide) (by omega))
        have h3 : B * 2 ^ (b / B - 1) ≤ (B + b % B) * 2 ^ (b / B - 1) := Nat.mul_le_mul_right _ (Nat.le_add_right _ _)
        omega
      · rw [heq]
        refine Nat.mul_lt_mul_of_pos_right ?_ (Nat.two_pow_pos _)
        have e1 := Nat.div_add_mod a B
        have e2 := Nat.div_add_mod b B
        rw [heq] at e1
        omega

/-- what a word up to infinity's reads as -/
theorem read_V {k : FloatKind} {w : Nat} (h : w % k.format.signWeight < k.format.infRung) :
    ∃ m d : Nat, k.format.read w = .number (w / k.format.signWeight % 2 == 1) m (k.format.leastPlace + d) ∧ m * 2 ^ d = V k.format.binade (w % k.format.signWeight) := by
  unfold Format.read V
  dsimp only
  by_cases h1 : w % k.format.signWeight < k.format.binade
  · rw [if_pos h1, if_pos h1]
    exact ⟨w % k.format.signWeight, 0, by simp, by simp⟩
  · rw [if_neg h1, if_neg h1, if_pos h]
    exact ⟨_, _, rfl, rfl⟩

theorem shift_mul (m d μ : Nat) (h : μ ≤ d) : (m <<< (d - μ)) * 2 ^ μ = m * 2 ^ d := by
  rw [Nat.shiftLeft_eq, Nat.mul_assoc, ← Nat.pow_add]; congr 2; omega

theorem signed_V (s : Bool) (m d μ : Nat) (h : μ ≤ d) : signed s m (d - μ) * (2 ^ μ : Nat) = if s then -((m * 2 ^ d : Nat) : Int) else ((m * 2 ^ d : Nat) : Int) := by
  unfold signed
  rw [← shift_mul m d μ h]
  cases s
  · simp
  · simp [Int.neg_mul]

theorem compare_int {a b : Int} {c : Nat} (hc : 0 < c) : compare (a * c) (b * c) = compare a b := by
  have hc' : (0 : Int) < c := by omega
  simp only [compare, compareOfLessAndEq, Int.mul_lt_mul_right hc']
  by_cases h : a < b
  · rw [if_pos h, if_pos h]
  · rw [if_neg h, if_neg h]
    by_cases e : a = b
    · rw [if_pos e, if_pos (by rw [e])]
    · rw [if_neg e, if_neg (fun he => e (Int.eq_of_mul_eq_mul_right (by omega) he))]

/-- a number's value with its sign, in units of the least place -/
def sV (k : FloatKind) (w : Nat) : Int := if (w / k.format.signWeight % 2 == 1) = true then -(V k.format.binade (w % k.format.signWeight) : Int) else V k.format.binade (w % k.format.signWeight)

theorem order_sV {k : FloatKind} {a b : Nat} (ha : a % k.format.signWeight < k.format.infRung) (hb : b % k.format.signWeight < k.format.infRung) :
    k.format.order a b = some (compare (sV k a) (sV k b)) := by
  obtain ⟨m, d, hr, hv⟩ := read_V ha
  obtain ⟨n, e, hs, hw⟩ := read_V hb
  show (k.format.read a).order (k.format.read b) = _
  rw [hr, hs]
  unfold Datum.order
  dsimp only
  congr 1
  have hm : min (k.format.leastPlace + (d : Int)) (k.format.leastPlace + (e : Int)) = k.format.leastPlace + (min d e : Nat) := by omega
  rw [hm, show (k.format.leastPlace + (d : Int) - (k.format.leastPlace + (min d e : Nat))).toNat = d - min d e by omega, show (k.format.leastPlace + (e : Int) - (k.format.leastPlace + (min d e : Nat))).toNat = e - min d e by omega]
  rw [← compare_int (c := 2 ^ min d e) (Nat.two_pow_pos _), signed_V _ _ _ _ (Nat.min_le_left ..), signed_V _ _ _ _ (Nat.min_le_right ..), hv, hw]
  rfl

theorem compare_nat_cast (a b : Nat) : compare (a : Int) (b : Int) = compare a b := by
  simp only [compare, compareOfLessAndEq, Int.ofNat_lt, Int.ofNat_inj]

theorem V_compare {B a b : Nat} (hB : 0 < B) : compare (V B a) (V B b) = compare a b := by
  simp only [compare, compareOfLessAndEq]
  rcases Nat.lt_trichotomy a b with h | h | h
  · rw [if_pos (V_lt hB h), if_pos h]
  · subst h; simp
  · have := V_lt hB h
    rw [if_neg (by omega), if_neg (by omega), if_neg (by omega), if_neg (by omega)]

theorem sV_pos {k : FloatKind} {a : Nat} (ha : a < k.format.signWeight) : sV k a = V k.format.binade a := by
  unfold sV
  rw [Nat.div_eq_of_lt ha, Nat.mod_eq_of_lt ha]
  rfl

/-- ORDER OF TWO WORDS WITHOUT A SIGN -/
theorem order_pos {k : FloatKind} {a b : Nat} (ha : a ≤ k.format.infRung) (hb : b ≤ k.format.infRung) : k.format.order a b = some (compare a b) := by
  have hi := inf_lt k
  have ea : a % k.format.signWeight = a := Nat.mod_eq_of_lt (by omega)
  have eb : b % k.format.signWeight = b := Nat.mod_eq_of_lt (by omega)
  have da : a / k.format.signWeight = 0 := Nat.div_eq_of_lt (by omega)
  have db : b / k.format.signWeight = 0 := Nat.div_eq_of_lt (by omega)
  rcases Nat.lt_or_eq_of_le ha with hla | rfl
  · rcases Nat.lt_or_eq_of_le hb with hlb | rfl
    · rw [order_sV (by rw [ea]; exact hla) (by rw [eb]; exact hlb), sV_pos (by omega), sV_pos (by omega), compare_nat_cast, V_compare (B := k.format.binade) (Nat.two_pow_pos _)]
    · obtain ⟨m, d, hr, _⟩ := read_V (k := k) (w := a) (by rw [ea]; exact hla)
      show (k.format.read a).order (k.format.read _) = _
      rw [hr, read_inf (w := k.format.infRung) eb, db]
      simp only [Datum.order, compare, compareOfLessAndEq]
      rw [if_pos (show a < k.format.infRung from hla)]; rfl
  · rcases Nat.lt_or_eq_of_le hb with hlb | rfl
    · obtain ⟨m, d, hr, _⟩ := read_V (k := k) (w := b) (by rw [eb]; exact hlb)
      show (k.format.read _).order (k.format.read b) = _
      rw [hr, read_inf (w := k.format.infRung) ea, da]
      simp only [Datum.order, compare, compareOfLessAndEq]
      rw [if_neg (show ¬ k.format.infRung < b by omega), if_neg (show ¬ k.format.infRung = b by omega)]; rfl
    · rw [order_self (nanW_of_le (by rw [ea]; exact Nat.le_refl _))]
      simp only [compare, compareOfLessAndEq]
      simp

end Flt
end Go.Proofs.Ytnhcmloaanamnaa
