/-
  What is proved here: halves and doubles of normal numbers are told by their words; numbers from 0.75 to 1.5 are near 1; lower bounds of sums. Conditions: as each theorem names. Own text; no dump.
-/
import Derived.Test.YtnhcmloaanamnaaMag
namespace Go.Proofs.Ytnhcmloaanamnaa
namespace Flt
open Ieee

theorem log2_scale (a j : Nat) (ha : a ≠ 0) : (a * 2 ^ j).log2 = a.log2 + j := by
  have hp := Nat.two_pow_pos j
  have h0 : a * 2 ^ j ≠ 0 := Nat.ne_of_gt (Nat.mul_pos (Nat.pos_of_ne_zero ha) hp)
  refine (Nat.log2_eq_iff h0).2 ⟨?_, ?_⟩
  · rw [Nat.pow_add]; exact Nat.mul_le_mul_right _ (Nat.log2_self_le ha)
  · rw [show a.log2 + j + 1 = (a.log2 + 1) + j by omega, Nat.pow_add]
    exact Nat.mul_lt_mul_of_pos_right Nat.lt_log2_self hp

theorem cut_mul (neg : Bool) (a drop : Nat) (ha : a ≠ 0) : Toward.even.cut neg (a * 2 ^ drop) drop = a := by
  unfold Toward.cut
  dsimp only
  rw [log2_scale a drop ha, Nat.min_eq_left (by omega), Nat.shiftLeft_eq, Nat.one_mul, Nat.mul_div_cancel _ (Nat.two_pow_pos _), Nat.mul_mod_left]
  simp

/-- the same number, written otherwise -/
theorem nearest_scale (k : FloatKind) (neg : Bool) (a j : Nat) (p : Int) (ha : a ≠ 0) (hl : a.log2 ≤ k.format.fractionBits) (hp : k.format.leastPlace ≤ p + j) :
    k.format.nearest neg (a * 2 ^ j) p = k.format.nearest neg a (p + j) := by
  have h0 : a * 2 ^ j ≠ 0 := Nat.ne_of_gt (Nat.mul_pos (Nat.pos_of_ne_zero ha) (Nat.two_pow_pos j))
  unfold Format.nearest
  dsimp only
  rw [if_neg h0, if_neg ha, log2_scale a j ha]
  have e : p + ((a.log2 + j : Nat) : Int) - (k.format.fractionBits : Int) = p + (j : Int) + (a.log2 : Int) - (k.format.fractionBits : Int) := by omega
  rw [e]
  generalize hL : max (p + (j : Int) + (a.log2 : Int) - (k.format.fractionBits : Int)) k.format.leastPlace = L
  have hLj : L ≤ p + j := by omega
  have hk : Toward.even.cut neg ((a * 2 ^ j) <<< (p - L).toNat) (L - p).toNat = Toward.even.cut neg (a <<< (p + j - L).toNat) (L - (p + j)).toNat := by
    rw [show (L - (p + (j : Int))).toNat = 0 by omega, cut_zero, Nat.shiftLeft_eq, Nat.shiftLeft_eq]
    by_cases hc : L ≤ p
    · rw [show (L - p).toNat = 0 by omega, cut_zero, Nat.mul_assoc, ← Nat.pow_add]; congr 2; omega
    · obtain ⟨d, hd⟩ : ∃ d : Nat, (L - p).toNat = d := ⟨_, rfl⟩
      rw [show (p - L).toNat = 0 by omega, hd, Nat.pow_zero, Nat.mul_one, show (p + (j : Int) - L).toNat = j - d by omega]
      have : a * 2 ^ j = (a * 2 ^ (j - d)) * 2 ^ d := by rw [Nat.mul_assoc, ← Nat.pow_add]; congr 2; omega
      rw [this, cut_mul]
      exact Nat.ne_of_gt (Nat.mul_pos (Nat.pos_of_ne_zero ha) (Nat.two_pow_pos _))
  rw [hk]

theorem V_inj {B a b : Nat} (hB : 0 < B) (h : V B a = V B b) : a = b := by
  rcases Nat.lt_trichotomy a b with h1 | h1 | h1
  · have := V_lt hB h1; omega
  · exact h1
  · have := V_lt hB h1; omega

/-- the word of a number whose rung is known -/
theorem word_of {k : FloatKind} {m : Nat} {p : Int} {w : Nat} (h : V k.format.binade (k.format.nearest false m p % k.format.signWeight) = V k.format.binade w) : k.format.nearest false m p = w := by
  have h1 := V_inj (Nat.two_pow_pos _) h
  have h2 : k.format.nearest false m p < k.format.signWeight := by
    have hi := inf_lt k
    unfold Format.nearest Format.word
    dsimp only
    split
    · simp; omega
    · simp; omega
  rw [Nat.mod_eq_of_lt h2] at h1
  exact h1

theorem read_norm {w : Nat} (h1 : 4503599627370496 ≤ w) (h2 : w < 9218868437227405312) : FloatKind.f64.format.read w = .number false (4503599627370496 + w % 4503599627370496) (-1074 + ((w / 4503599627370496 - 1 : Nat) : Int)) := by
  unfold Format.read
  dsimp only
  have hs : w % FloatKind.f64.format.signWeight = w := by rw [sw64]; omega
  have hd : w / FloatKind.f64.format.signWeight = 0 := by rw [sw64]; omega
  rw [hs, hd, bi64, inf64, if_neg (by omega), if_pos h2]
  rfl

theorem log2_norm (f : Nat) (h : f < 4503599627370496) : (4503599627370496 + f).log2 = 52 :=
  (Nat.log2_eq_iff (by omega)).2 ⟨by rw [show (2 : Nat) ^ 52 = 4503599627370496 from rfl]; omega, by rw [show (2 : Nat) ^ (52 + 1) = 9007199254740992 from rfl]; omega⟩

theorem V_norm {w : Nat} (h1 : 4503599627370496 ≤ w) : V FloatKind.f64.format.binade w = (4503599627370496 + w % 4503599627370496) * 2 ^ (w / 4503599627370496 - 1) := by
  rw [bi64]; unfold V; rw [if_neg (by omega)]

/-- half of it -/
theorem halve {x : Nat} (h1 : 9007199254740992 ≤ x) (h2 : x < 9218868437227405312) : floatBits .quo .f64 x 4611686018427387904 = some (x - 4503599627370496) := by
  show ((FloatKind.f64.format.read x).quotient (FloatKind.f64.format.fractionBits + 2) (FloatKind.f64.format.read 4611686018427387904)).map FloatKind.f64.format.write = _
  rw [read_norm (by omega) h2, read_norm (w := 4611686018427387904) (by decide) (by decide)]
  have hf : x % 4503599627370496 < 4503599627370496 := Nat.mod_lt _ (by decide)
  have hlog := log2_norm _ hf
  simp only [Datum.quotient]
  rw [if_neg (by decide), hlog]
  generalize hm : 4503599627370496 + x % 4503599627370496 = m at *
  rw [show FloatKind.f64.format.fractionBits + 2 + (4503599627370496 + 4611686018427387904 % 4503599627370496 : Nat).log2 - 52 = 54 by decide]
  rw [show (4503599627370496 + 4611686018427387904 % 4503599627370496 : Nat) = 2 ^ 52 by decide, Nat.shiftLeft_eq]
  have e : m * 2 ^ 54 = m * 4 * 2 ^ 52 := by rw [show (2 : Nat) ^ 54 = 4 * 2 ^ 52 by decide]; rw [Nat.mul_assoc]
  rw [e, Nat.mul_div_cancel _ (Nat.two_pow_pos _), Nat.mul_mod_left]
  simp only [Option.map_some, Option.some.injEq, bne_self_eq_false, Bool.toNat_false, Nat.add_zero]
  rw [show 2 * (m * 4) = m * 2 ^ 3 by omega]
  have hx2 : 2 ≤ x / 4503599627370496 := by omega
  have hx3 : x / 4503599627370496 ≤ 2046 := by omega
  show FloatKind.f64.format.nearest (false ^^ false) (m * 2 ^ 3) _ = _
  have hl : FloatKind.f64.format.leastPlace = -1074 := by decide
  have hfb : FloatKind.f64.format.fractionBits = 52 := by decide
  have heb : 2 ^ FloatKind.f64.format.exponentBits - 1 = 2047 := by decide
  have hpl : (-1074 + ((x / 4503599627370496 - 1 : Nat) : Int) - (-1074 + ((4611686018427387904 / 4503599627370496 - 1 : Nat) : Int)) - ((54 : Nat) : Int) - 1) + ((3 : Nat) : Int) = -1074 + ((x / 4503599627370496 - 2 : Nat) : Int) := by
    rw [show (4611686018427387904 / 4503599627370496 - 1 : Nat) = 1023 by decide]; omega
  rw [nearest_scale .f64 _ m 3 _ (by omega) (by rw [hfb]; omega) (by rw [hl, hpl]; omega), hpl]
  refine word_of ?_
  obtain ⟨g1, _⟩ := nearest_exact .f64 (false ^^ false) m (-1074 + ((x / 4503599627370496 - 2 : Nat) : Int)) (.inr (by rw [hfb]; omega)) (x / 4503599627370496 - 2) (by rw [hl]) (.inr (by rw [hfb, heb]; omega))
  rw [show (false ^^ false) = false from rfl] at g1
  rw [g1, V_norm (by omega)]
  rw [show (x - 4503599627370496) % 4503599627370496 = x % 4503599627370496 by omega, hm, show (x - 4503599627370496) / 4503599627370496 - 1 = x / 4503599627370496 - 2 by omega]

/-- twice as much -/
theorem double {x : Nat} (h1 : 4503599627370496 ≤ x) (h2 : x < 9214364837600034816) : floatBits .mul .f64 x 4611686018427387904 = some (x + 4503599627370496) := by
  show ((FloatKind.f64.format.read x).product (FloatKind.f64.format.read 4611686018427387904)).map FloatKind.f64.format.write = _
  rw [read_norm h1 (by omega), read_norm (w := 4611686018427387904) (by decide) (by decide)]
  have hf : x % 4503599627370496 < 4503599627370496 := Nat.mod_lt _ (by decide)
  have hlog := log2_norm _ hf
  simp only [Datum.product, Option.map_some, Option.some.injEq]
  generalize hm : 4503599627370496 + x % 4503599627370496 = m at *
  rw [show (4503599627370496 + 4611686018427387904 % 4503599627370496 : Nat) = 2 ^ 52 by decide]
  have hx3 : x / 4503599627370496 ≤ 2045 := by omega
  have hx1 : 1 ≤ x / 4503599627370496 := by omega
  show FloatKind.f64.format.nearest (false ^^ false) (m * 2 ^ 52) _ = _
  have hl : FloatKind.f64.format.leastPlace = -1074 := by decide
  have hfb : FloatKind.f64.format.fractionBits = 52 := by decide
  have heb : 2 ^ FloatKind.f64.format.exponentBits - 1 = 2047 := by decide
  have hpl : (-1074 + ((x / 4503599627370496 - 1 : Nat) : Int) + (-1074 + ((4611686018427387904 / 4503599627370496 - 1 : Nat) : Int))) + ((52 : Nat) : Int) = -1074 + ((x / 4503599627370496 : Nat) : Int) := by
    rw [show (4611686018427387904 / 4503599627370496 - 1 : Nat) = 1023 by decide]; omega
  rw [nearest_scale .f64 _ m 52 _ (by omega) (by rw [hfb]; omega) (by rw [hl, hpl]; omega), hpl]
  refine word_of ?_
  obtain ⟨g1, _⟩ := nearest_exact .f64 (false ^^ false) m (-1074 + ((x / 4503599627370496 : Nat) : Int)) (.inr (by rw [hfb]; omega)) (x / 4503599627370496) (by rw [hl]) (.inr (by rw [hfb, heb]; omega))
  rw [show (false ^^ false) = false from rfl] at g1
  rw [g1, V_norm (by omega)]
  rw [show (x + 4503599627370496) % 4503599627370496 = x % 4503599627370496 by omega, hm, show (x + 4503599627370496) / 4503599627370496 - 1 = x / 4503599627370496 by omega]

/-! lower bounds -/
theorem nearest_ge (k : FloatKind) (neg : Bool) {m : Nat} {p F : Int} (N : Nat) (h : GeP m p F) (hF : F + 1 = k.format.fractionBits + k.format.leastPlace + N) (hN : 1 ≤ N) (hi : N * k.format.binade ≤ k.format.infRung) :
    N * k.format.binade ≤ k.format.nearest neg m p % k.format.signWeight := by
  obtain ⟨c, h1, h2, h3⟩ := h
  have hm : m ≠ 0 := by
    rintro rfl; rw [Nat.zero_mul] at h3; have := Nat.two_pow_pos (F + c).toNat; omega
  have hlog : F ≤ p + m.log2 := by
    have hlt : m < 2 ^ (m.log2 + 1) := Nat.lt_log2_self
    have : 2 ^ (F + c).toNat < 2 ^ (m.log2 + 1 + (p + c).toNat) := by
      rw [Nat.pow_add _ (m.log2 + 1)]
      exact Nat.lt_of_le_of_lt h3 (Nat.mul_lt_mul_of_pos_right hlt (Nat.two_pow_pos _))
    have := (Nat.pow_lt_pow_iff_right (by decide)).1 this
    omega
  unfold Format.nearest
  dsimp only
  rw [if_neg hm, mod_word _ _ (Nat.lt_of_le_of_lt (Nat.min_le_right ..) (inf_lt k))]
  refine Nat.le_min.2 ⟨?_, hi⟩
  have hB : k.format.binade = 2 ^ k.format.fractionBits := rfl
  rw [Int.max_eq_left (by omega)]
  have hlo : 2 ^ m.log2 ≤ m := Nat.log2_self_le hm
  generalize m.log2 = j at *
  have hk : k.format.binade ≤ Toward.even.cut neg (m <<< (p - (p + (j : Int) - (k.format.fractionBits : Int))).toNat) (p + (j : Int) - (k.format.fractionBits : Int) - p).toNat := by
    by_cases hc : j ≤ k.format.fractionBits
    · rw [show (p + (j : Int) - (k.format.fractionBits : Int) - p).toNat = 0 by omega, cut_zero, show (p - (p + (j : Int) - (k.format.fractionBits : Int))).toNat = k.format.fractionBits - j by omega, Nat.shiftLeft_eq, hB]
      calc 2 ^ k.format.fractionBits = 2 ^ j * 2 ^ (k.format.fractionBits - j) := by rw [← Nat.pow_add]; congr 1; omega
        _ ≤ _ := Nat.mul_le_mul_right _ hlo
    · rw [show (p - (p + (j : Int) - (k.format.fractionBits : Int))).toNat = 0 by omega, Nat.shiftLeft_zero, show (p + (j : Int) - (k.format.fractionBits : Int) - p).toNat = j - k.format.fractionBits by omega]
      unfold Toward.cut
      dsimp only
      refine Nat.le_trans ?_ (Nat.le_add_right _ _)
      rw [Nat.shiftLeft_eq, Nat.one_mul, hB, Nat.le_div_iff_mul_le (Nat.two_pow_pos _)]
      refine Nat.le_trans (Nat.mul_le_mul_left _ (Nat.pow_le_pow_right (by decide) (Nat.min_le_left _ _))) ?_
      rw [← Nat.pow_add, show k.format.fractionBits + (j - k.format.fractionBits) = j by omega]
      exact hlo
  have hq : N ≤ (p + (j : Int) - (k.format.fractionBits : Int) - k.format.leastPlace).toNat + 1 := by omega
  calc N * k.format.binade ≤ ((p + (j : Int) - (k.format.fractionBits : Int) - k.format.leastPlace).toNat + 1) * k.format.binade := Nat.mul_le_mul_right _ hq
    _ = (p + (j : Int) - (k.format.fractionBits : Int) - k.format.leastPlace).toNat * k.format.binade + k.format.binade := by rw [Nat.add_mul, Nat.one_mul]
    _ ≤ _ := Nat.add_le_add_left hk _

/-- a number without a sign -/
def Nn (k : FloatKind) (a : Option Nat) : Prop := ∀ v, a = some v → v % k.format.signWeight < k.format.infRung ∧ (v / k.format.signWeight % 2 == 1) = false

end Flt
end Go.Proofs.Ytnhcmloaanamnaa
