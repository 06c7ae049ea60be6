/-
  What is proved here: a number times a power of two below one is the number over the power of two, also where it is rounded; a number written otherwise. Conditions: none. Own text; no dump.
-/
import Derived.Test.YtfjahgojmiednaaLogA
namespace Go.Proofs.Ytfjahgojmiednaa
open Flt Ieee

theorem cut_scale (neg : Bool) (a j d : Nat) (ha : a ≠ 0) : Toward.even.cut neg (a * 2 ^ j) (d + j) = Toward.even.cut neg a d := by
  unfold Toward.cut
  dsimp only
  rw [log2_scale a j ha, show min (d + j) (a.log2 + j + 2) = min d (a.log2 + 2) + j by omega]
  generalize min d (a.log2 + 2) = g
  rw [Nat.shiftLeft_eq, Nat.shiftLeft_eq, Nat.one_mul, Nat.one_mul, Nat.pow_add, Nat.mul_div_mul_right _ _ (Nat.two_pow_pos j), Nat.mul_mod_mul_right]
  have hp := Nat.two_pow_pos j
  have e1 : decide (2 ^ g * 2 ^ j < 2 * (a % 2 ^ g * 2 ^ j)) = decide (2 ^ g < 2 * (a % 2 ^ g)) := by
    rw [← Nat.mul_assoc]
    exact decide_eq_decide.2 ⟨fun h => Nat.lt_of_mul_lt_mul_right h, fun h => Nat.mul_lt_mul_of_pos_right h hp⟩
  have e2 : (2 ^ g * 2 ^ j == 2 * (a % 2 ^ g * 2 ^ j)) = (2 ^ g == 2 * (a % 2 ^ g)) := by
    rw [← Nat.mul_assoc, Bool.eq_iff_iff, beq_iff_eq, beq_iff_eq]
    exact ⟨fun h => Nat.eq_of_mul_eq_mul_right hp h, fun h => congrArg (· * 2 ^ j) h⟩
  rw [e1, e2]

/-- the same number, written otherwise, however small it is -/
theorem nearest_scale2 (k : FloatKind) (neg : Bool) (a j : Nat) (p : Int) (ha : a ≠ 0) : k.format.nearest neg (a * 2 ^ j) p = k.format.nearest neg a (p + j) := by
  have h0 : a * 2 ^ j ≠ 0 := Nat.ne_of_gt (Nat.mul_pos (Nat.pos_of_ne_zero ha) (Nat.two_pow_pos j))
  unfold Format.nearest
  dsimp only
  rw [if_neg h0, if_neg ha, log2_scale a j ha]
  have e : p + ((a.log2 + j : Nat) : Int) - (k.format.fractionBits : Int) = p + (j : Int) + (a.log2 : Int) - (k.format.fractionBits : Int) := by omega
  rw [e]
  generalize max (p + (j : Int) + (a.log2 : Int) - (k.format.fractionBits : Int)) k.format.leastPlace = L
  have hk : Toward.even.cut neg ((a * 2 ^ j) <<< (p - L).toNat) (L - p).toNat = Toward.even.cut neg (a <<< (p + j - L).toNat) (L - (p + j)).toNat := by
    rw [Nat.shiftLeft_eq, Nat.shiftLeft_eq]
    by_cases hc : L ≤ p
    · rw [show (L - p).toNat = 0 by omega, show (L - (p + (j : Int))).toNat = 0 by omega, cut_zero, cut_zero, Nat.mul_assoc, ← Nat.pow_add]; congr 2; omega
    · by_cases hd : L ≤ p + j
      · obtain ⟨d, hd⟩ : ∃ d : Nat, (L - p).toNat = d := ⟨_, rfl⟩
        rw [show (p - L).toNat = 0 by omega, show (L - (p + (j : Int))).toNat = 0 by omega, cut_zero, hd, Nat.pow_zero, Nat.mul_one, show (p + (j : Int) - L).toNat = j - d by omega]
        have : a * 2 ^ j = (a * 2 ^ (j - d)) * 2 ^ d := by rw [Nat.mul_assoc, ← Nat.pow_add]; congr 2; omega
        rw [this, cut_mul]
        exact Nat.ne_of_gt (Nat.mul_pos (Nat.pos_of_ne_zero ha) (Nat.two_pow_pos _))
      · rw [show (p - L).toNat = 0 by omega, show (p + (j : Int) - L).toNat = 0 by omega, Nat.pow_zero, Nat.mul_one, Nat.mul_one]
        obtain ⟨d, hd⟩ : ∃ d : Nat, (L - (p + (j : Int))).toNat = d := ⟨_, rfl⟩
        rw [hd, show (L - p).toNat = d + j by omega, cut_scale neg a j d ha]
  rw [hk]

theorem read_log {w m : Nat} {s : Bool} {e : Int} (h : FloatKind.f32.format.read w = .number s m e) : m < 2 ^ 24 := by
  unfold Format.read at h
  dsimp only at h
  have hb : FloatKind.f32.format.binade = 2 ^ 23 := by decide
  split at h
  · injection h with _ h _
    omega
  · split at h
    · injection h with _ h _
      have := Nat.mod_lt (w % FloatKind.f32.format.signWeight) (show 0 < FloatKind.f32.format.binade by rw [hb]; exact Nat.two_pow_pos 23)
      omega
    · split at h <;> cases h

/-- times a power of two, and over its inverse -/
theorem mul_quo {c1 c2 : Nat} (k : Nat) (h1 : FloatKind.f32.format.read c1 = .number false 8388608 (-23 - k)) (h2 : FloatKind.f32.format.read c2 = .number false 8388608 (-23 + k)) (x : Nat) :
    floatBits .mul .f32 c1 x = floatBits .quo .f32 x c2 := by
  have a1 : floatBits .mul .f32 c1 x = ((FloatKind.f32.format.read c1).product (FloatKind.f32.format.read x)).map FloatKind.f32.format.write := rfl
  have a2 : floatBits .quo .f32 x c2 = ((FloatKind.f32.format.read x).quotient (FloatKind.f32.format.fractionBits + 2) (FloatKind.f32.format.read c2)).map FloatKind.f32.format.write := rfl
  rw [a1, a2, h1, h2]
  cases hx : FloatKind.f32.format.read x with
  | nan s f => rfl
  | infinity s => cases s <;> rfl
  | number s m e =>
    have hm := read_log hx
    unfold Datum.product Datum.quotient
    dsimp only
    rw [if_neg (by decide : ¬ (8388608 : Nat) = 0)]
    show some (FloatKind.f32.format.nearest _ _ _) = some (FloatKind.f32.format.nearest _ _ _)
    congr 1
    have hl : (8388608 : Nat).log2 = 23 := by decide
    rw [hl]
    by_cases h0 : m = 0
    · subst h0
      simp [Format.nearest]
    · have hlm : m.log2 ≤ 23 := by have := (Nat.log2_lt h0).2 hm; omega
      have hfb : FloatKind.f32.format.fractionBits = 23 := by decide
      rw [hfb]
      obtain ⟨r, hr⟩ : ∃ r, 23 + 2 + 23 - m.log2 = 23 + r := ⟨25 - m.log2, by omega⟩
      rw [hr, Nat.shiftLeft_eq]
      have e1 : m * 2 ^ (23 + r) = (m * 2 ^ r) * 8388608 := by rw [Nat.pow_add, Nat.mul_comm (2 ^ 23), ← Nat.mul_assoc]
      rw [e1, Nat.mul_div_cancel _ (by decide), Nat.mul_mod_left]
      have e2 : 2 * (m * 2 ^ r) + ((0 : Nat) != 0).toNat = m * 2 ^ (r + 1) := by
        rw [show (((0 : Nat) != 0).toNat) = 0 from rfl, Nat.add_zero, Nat.pow_succ, Nat.mul_comm 2 (m * 2 ^ r), Nat.mul_assoc]
      rw [e2, nearest_scale2 .f32 _ m (r + 1) _ h0, Nat.mul_comm 8388608 m, show (8388608 : Nat) = 2 ^ 23 from rfl, nearest_scale2 .f32 _ m 23 _ h0]
      congr 1
      · simp
      · omega
theorem half_eq (o : Option Nat) : fop .mul .f32 (can .f32 1056964608) o = fop .quo .f32 o (can .f32 1073741824) := by
  cases o with
  | none => rfl
  | some x =>
    have h := mul_quo (c1 := 1056964608) (c2 := 1073741824) 1 (by decide +kernel) (by decide +kernel) x
    rw [show can .f32 1056964608 = some 1056964608 by decide +kernel, show can .f32 1073741824 = some 1073741824 by decide +kernel]
    exact h
theorem quarter_eq (o : Option Nat) : fop .mul .f32 (can .f32 1048576000) o = fop .quo .f32 o (can .f32 1082130432) := by
  cases o with
  | none => rfl
  | some x =>
    have h := mul_quo (c1 := 1048576000) (c2 := 1082130432) 2 (by decide +kernel) (by decide +kernel) x
    rw [show can .f32 1048576000 = some 1048576000 by decide +kernel, show can .f32 1082130432 = some 1082130432 by decide +kernel]
    exact h

end Go.Proofs.Ytfjahgojmiednaa
