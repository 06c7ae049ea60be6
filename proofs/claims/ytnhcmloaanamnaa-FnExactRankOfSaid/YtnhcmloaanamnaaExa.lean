/-
  What is proved here: a number that a format has is written as it stands ('nearest_exact'); a finite 32-bit number, widened, is the same number; which words are zero, which are subnormal. Conditions: as each theorem names. Own text; no dump.
-/
import Derived.Test.YtnhcmloaanamnaaOrd
namespace Go.Proofs.Ytnhcmloaanamnaa
namespace Flt
open Ieee

theorem word_div (f : Format) (neg : Bool) {rung : Nat} (h : rung < f.signWeight) : (f.word neg rung / f.signWeight % 2 == 1) = neg := by
  unfold Format.word
  cases neg
  · simp [Nat.div_eq_of_lt h]
  · have hp : 0 < f.signWeight := Nat.two_pow_pos _
    simp [Nat.add_div_left _ hp, Nat.div_eq_of_lt h]

theorem nearest_sign (k : FloatKind) (neg : Bool) (mag : Nat) (place : Int) : (k.format.nearest neg mag place / k.format.signWeight % 2 == 1) = neg := by
  unfold Format.nearest
  dsimp only
  split
  · exact word_div _ _ (Nat.two_pow_pos _)
  · exact word_div _ _ (Nat.lt_of_le_of_lt (Nat.min_le_right ..) (inf_lt k))

/-- WHAT A FORMAT HAS IS WRITTEN AS IT STANDS -/
theorem nearest_exact (k : FloatKind) (neg : Bool) (mag : Nat) (place : Int) (hl : mag = 0 ∨ mag.log2 ≤ k.format.fractionBits) (d : Nat) (hp : place = k.format.leastPlace + d)
    (ho : mag = 0 ∨ (d + mag.log2 + 2 : Int) ≤ k.format.fractionBits + (2 ^ k.format.exponentBits - 1 : Nat)) :
    V k.format.binade (k.format.nearest neg mag place % k.format.signWeight) = mag * 2 ^ d ∧ k.format.nearest neg mag place % k.format.signWeight < k.format.infRung := by
  have hB : k.format.binade = 2 ^ k.format.fractionBits := rfl
  have hbi := binade_le k
  have hbp : 0 < k.format.binade := Nat.two_pow_pos _
  unfold Format.nearest
  dsimp only
  by_cases hm : mag = 0
  · rw [if_pos hm, mod_word _ _ (Nat.two_pow_pos _)]
    subst hm
    refine ⟨by simp [V, hbp], by omega⟩
  · rw [if_neg hm]
    have hl := hl.resolve_left hm
    have ho := ho.resolve_left hm
    have hlo : 2 ^ mag.log2 ≤ mag := Nat.log2_self_le hm
    have hhi : mag < 2 ^ (mag.log2 + 1) := Nat.lt_log2_self
    generalize hL : mag.log2 = L at *
    by_cases hA : k.format.leastPlace ≤ place + L - k.format.fractionBits
    · rw [Int.max_eq_left hA]
      have e1 : (place + (L : Int) - (k.format.fractionBits : Int) - place).toNat = 0 := by omega
      have e2 : (place - (place + (L : Int) - (k.format.fractionBits : Int))).toNat = k.format.fractionBits - L := by omega
      obtain ⟨g, hg⟩ : ∃ g : Nat, (place + (L : Int) - (k.format.fractionBits : Int) - k.format.leastPlace).toNat = g := ⟨_, rfl⟩
      have hgd : g + k.format.fractionBits = d + L := by omega
      rw [e1, e2, cut_zero, hg, Nat.shiftLeft_eq]
      have k1 : k.format.binade ≤ mag * 2 ^ (k.format.fractionBits - L) := by
        rw [hB, show 2 ^ k.format.fractionBits = 2 ^ L * 2 ^ (k.format.fractionBits - L) by rw [← Nat.pow_add]; congr 1; omega]
        exact Nat.mul_le_mul_right _ hlo
      have k2 : mag * 2 ^ (k.format.fractionBits - L) < 2 * k.format.binade := by
        rw [hB, show 2 * 2 ^ k.format.fractionBits = 2 ^ (L + 1) * 2 ^ (k.format.fractionBits - L) by rw [← Nat.pow_add, ← Nat.pow_succ']; congr 1; omega]
        exact Nat.mul_lt_mul_of_pos_right hhi (Nat.two_pow_pos _)
      have hlt : g * k.format.binade + mag * 2 ^ (k.format.fractionBits - L) < k.format.infRung := by
        rw [inf_eq]
        have : g + 2 ≤ 2 ^ k.format.exponentBits - 1 := by omega
        have := Nat.mul_le_mul_right k.format.binade this
        rw [Nat.add_mul] at this
        omega
      rw [Nat.min_eq_left (Nat.le_of_lt hlt), mod_word _ _ (Nat.lt_trans hlt (inf_lt k))]
      refine ⟨?_, hlt⟩
      unfold V
      generalize hq : mag * 2 ^ (k.format.fractionBits - L) = q at *
      rw [if_neg (by omega)]
      have d1 : (g * k.format.binade + q) / k.format.binade = g + 1 := by
        rw [show g * k.format.binade + q = (q - k.format.binade) + (g + 1) * k.format.binade by rw [Nat.add_mul]; omega, Nat.add_mul_div_right _ _ hbp, Nat.div_eq_of_lt (by omega)]; omega
      have d2 : (g * k.format.binade + q) % k.format.binade = q - k.format.binade := by
        rw [show g * k.format.binade + q = (q - k.format.binade) + (g + 1) * k.format.binade by rw [Nat.add_mul]; omega, Nat.add_mul_mod_self_right, Nat.mod_eq_of_lt (by omega)]
      rw [d1, d2, Nat.add_sub_cancel, Nat.add_sub_cancel' k1, ← hq, Nat.mul_assoc, ← Nat.pow_add]
      congr 2; omega
    · rw [Int.max_eq_right (by omega)]
      have e1 : (k.format.leastPlace - place).toNat = 0 := by omega
      have e2 : (place - k.format.leastPlace).toNat = d := by omega
      rw [e1, e2, cut_zero, Nat.shiftLeft_eq, Int.sub_self, Int.toNat_zero, Nat.zero_mul, Nat.zero_add]
      have hlt : mag * 2 ^ d < k.format.binade := by
        rw [hB]
        calc mag * 2 ^ d < 2 ^ (L + 1) * 2 ^ d := Nat.mul_lt_mul_of_pos_right hhi (Nat.two_pow_pos _)
          _ = 2 ^ (L + 1 + d) := (Nat.pow_add ..).symm
          _ ≤ _ := Nat.pow_le_pow_right (by decide) (by omega)
      rw [Nat.min_eq_left (by omega), mod_word _ _ (by have := inf_lt k; omega)]
      exact ⟨by unfold V; rw [if_pos hlt], by omega⟩

theorem read_small {k : FloatKind} {w : Nat} {s : Bool} {m : Nat} {e : Int} (h : k.format.read w = .number s m e) (hm : m ≠ 0) : m.log2 ≤ k.format.fractionBits := by
  have hbp : 0 < k.format.binade := Nat.two_pow_pos _
  have : m < k.format.binade * 2 := by
    unfold Format.read at h
    dsimp only at h
    split at h
    · injection h with _ h2 _; omega
    · split at h
      · injection h with _ h2 _
        have := Nat.mod_lt (w % k.format.signWeight) hbp
        omega
      · split at h <;> cases h
  have h2 : m.log2 < k.format.fractionBits + 1 := (Nat.log2_lt hm).2 (by rw [Nat.pow_succ]; exact this)
  omega

/-- by how many binary places the least places of both formats differ -/
def gap : Nat := 925
theorem gap_eq : gap = 925 := rfl
attribute [irreducible] gap

/-- of a finite 32-bit number the widened word -/
theorem widen_V {x r : Nat} (h : x % FloatKind.f32.format.signWeight < FloatKind.f32.format.infRung) (hr : can .f64 r = wid (can .f32 x)) :
    V FloatKind.f64.format.binade (r % FloatKind.f64.format.signWeight) = V FloatKind.f32.format.binade (x % FloatKind.f32.format.signWeight) * 2 ^ gap ∧
    (r / FloatKind.f64.format.signWeight % 2 == 1) = (x / FloatKind.f32.format.signWeight % 2 == 1) ∧ r % FloatKind.f64.format.signWeight < FloatKind.f64.format.infRung := by
  obtain ⟨m, d, hd, hv⟩ := read_V h
  obtain ⟨m', e', hr', hb⟩ := read_number h
  have hn : nanW .f32 x = false := nanW_of_le (Nat.le_of_lt h)
  obtain ⟨q, hq, _, hqn⟩ := widen_finite h
  rw [can_num hn] at hr
  have hw : wid (some x) = some q := hq
  rw [hw] at hr
  obtain ⟨_, rfl⟩ := can_eq_some hr
  unfold floatToFloatBits at hq
  rw [if_neg (by decide)] at hq
  have hdc : FloatKind.f32.decode x = .number (x / FloatKind.f32.format.signWeight % 2 == 1) m (FloatKind.f32.format.leastPlace + d) := hd
  rw [hdc] at hq
  dsimp only at hq
  split at hq
  · cases hq
  · have hq := Option.some.inj hq
    rw [encode_number] at hq
    have hbnd : m = 0 ∨ (d : Int) + m.log2 ≤ 277 ∧ m.log2 ≤ 23 := by
      rw [hd] at hr'
      injection hr' with _ e1 e2
      subst e1
      rcases hb with h0 | hb
      · exact .inl h0
      · right
        have := hb 255 (by decide) (by rw [bi32]; rw [inf32] at h; omega)
        rw [fb32, ← e2] at this
        have hlp : FloatKind.f32.format.leastPlace = -149 := by decide
        rw [hlp] at this
        by_cases hm0 : m = 0
        · subst hm0; exact ⟨by simp at this ⊢; omega, by simp⟩
        · have h23 := read_small hd hm0
          have : FloatKind.f32.format.fractionBits = 23 := by decide
          omega
    have hlp : FloatKind.f32.format.leastPlace = -149 := by decide
    have hlp64 : FloatKind.f64.format.leastPlace = -1074 := by decide
    have hfb64 : FloatKind.f64.format.fractionBits = 52 := by decide
    have heb64 : 2 ^ FloatKind.f64.format.exponentBits - 1 = 2047 := by decide
    obtain ⟨g1, g2⟩ := nearest_exact .f64 (x / FloatKind.f32.format.signWeight % 2 == 1) m (FloatKind.f32.format.leastPlace + d) (by rw [hfb64]; omega) (gap + d) (by rw [hlp, hlp64]; have := gap_eq; omega) (by rw [hfb64, heb64]; have := gap_eq; omega)
    rw [hq] at g1 g2
    refine ⟨by rw [g1, ← hv, Nat.pow_add, Nat.mul_comm (2 ^ gap), Nat.mul_assoc], ?_, g2⟩
    rw [← hq]; exact nearest_sign ..

end Flt
end Go.Proofs.Ytnhcmloaanamnaa
