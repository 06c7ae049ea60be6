/-
  What is proved here: rounding doesn't pass a number that the format has: what is at most c * 2 ^ E is rounded to at most c * 2 ^ E, and what is at least so much to at least so much, where c has no more digits than the format. Conditions: E is not too great. Own text.
-/
import Derived.Test.YtgiblioilpedfaaMdf
namespace Go.Proofs.Ytgiblioilpedfaa
namespace Flt
open Ieee

theorem cut_le_of (neg : Bool) {n d C : Nat} (h : n ≤ C * 2 ^ d) : Toward.even.cut neg n d ≤ C := by
  unfold Toward.cut
  dsimp only
  have hn : n < 2 ^ (n.log2 + 1) := Nat.lt_log2_self
  rw [Nat.shiftLeft_eq, Nat.one_mul]
  by_cases hd : d ≤ n.log2 + 2
  · rw [Nat.min_eq_left hd]
    have hp : 0 < 2 ^ d := Nat.two_pow_pos d
    have hdm := Nat.div_add_mod n (2 ^ d)
    have hq : n / 2 ^ d ≤ C := Nat.div_le_of_le_mul (by rw [Nat.mul_comm]; exact h)
    by_cases hr : n % 2 ^ d = 0
    · rw [hr, decide_eq_false (by omega), show ((2 ^ d == 2 * 0) = false) from by rw [beq_eq_false_iff_ne]; omega]
      simpa using hq
    · have : n / 2 ^ d < C := by
        rw [Nat.div_lt_iff_lt_mul hp]
        rcases Nat.lt_or_eq_of_le h with h1 | h1
        · exact h1
        · rw [h1, Nat.mul_mod_left] at hr; exact absurd rfl hr
      have := Bool.toNat_le (decide (2 ^ d < 2 * (n % 2 ^ d)) || (2 ^ d == 2 * (n % 2 ^ d) && n / 2 ^ d % 2 == 1))
      omega
  · rw [Nat.min_eq_right (by omega)]
    have h4 : 2 ^ (n.log2 + 2) = 2 * 2 ^ (n.log2 + 1) := by rw [Nat.pow_succ, Nat.mul_comm]
    have h2 : n < 2 ^ (n.log2 + 2) := by omega
    rw [Nat.div_eq_of_lt h2, Nat.mod_eq_of_lt h2, decide_eq_false (by omega), show ((2 ^ (n.log2 + 2) == 2 * n) = false) from by rw [beq_eq_false_iff_ne]; omega]
    simp
theorem le_cut_of (neg : Bool) {n d C : Nat} (h : C * 2 ^ d ≤ n) : C ≤ Toward.even.cut neg n d := by
  unfold Toward.cut
  dsimp only
  have hn : n < 2 ^ (n.log2 + 1) := Nat.lt_log2_self
  rw [Nat.shiftLeft_eq, Nat.one_mul]
  by_cases hd : d ≤ n.log2 + 2
  · rw [Nat.min_eq_left hd]
    have hq : C ≤ n / 2 ^ d := (Nat.le_div_iff_mul_le (Nat.two_pow_pos d)).2 h
    omega
  · have h5 : 2 ^ (n.log2 + 1) ≤ 2 ^ d := Nat.pow_le_pow_right (by decide) (by omega)
    have : C = 0 := by
      rcases Nat.eq_zero_or_pos C with h0 | h0
      · exact h0
      · have := Nat.mul_le_mul_right (2 ^ d) h0; omega
    subst this
    exact Nat.zero_le _
theorem V_rung {B g kept : Nat} (hB : 0 < B) (h2 : kept ≤ 2 * B) (h1 : g = 0 ∨ B ≤ kept) : V B (g * B + kept) = kept * 2 ^ g := by
  by_cases hk : kept < B
  · have hg : g = 0 := by omega
    subst hg
    unfold V
    rw [Nat.zero_mul, Nat.zero_add, if_pos hk]; simp
  · by_cases he : kept = 2 * B
    · subst he
      rw [show g * B + 2 * B = (g + 2) * B by rw [Nat.add_mul], V_mul hB (g + 2) (by omega), show g + 2 - 1 = g + 1 by omega, Nat.pow_succ]
      ac_rfl
    · obtain ⟨r, rfl⟩ : ∃ r, kept = B + r := ⟨kept - B, by omega⟩
      have hr : r < B := by omega
      unfold V
      have e : g * B + (B + r) = (g + 1) * B + r := by rw [Nat.add_mul, Nat.one_mul]; omega
      have hle : B ≤ (g + 1) * B := Nat.le_mul_of_pos_left _ (by omega)
      rw [e, if_neg (by omega), show ((g + 1) * B + r) % B = r from by rw [Nat.mul_comm, Nat.mul_add_mod, Nat.mod_eq_of_lt hr], show ((g + 1) * B + r) / B = g + 1 from by rw [Nat.mul_comm, Nat.mul_add_div hB, Nat.div_eq_of_lt hr, Nat.add_zero]]
      rfl

/-- 'm * 2 ^ p' is at most 'c * 2 ^ E', at least so much -/
def LeC (m : Nat) (p : Int) (c : Nat) (E : Int) : Prop := ∃ u : Nat, 0 ≤ p + u ∧ 0 ≤ E + u ∧ m * 2 ^ (p + u).toNat ≤ c * 2 ^ (E + u).toNat
theorem LeC.up {m c : Nat} {p E : Int} (h : LeC m p c E) : ∃ c0 : Nat, ∀ u : Nat, c0 ≤ u → 0 ≤ p + u ∧ 0 ≤ E + u ∧ m * 2 ^ (p + u).toNat ≤ c * 2 ^ (E + u).toNat := by
  obtain ⟨c0, h1, h2, h3⟩ := h
  refine ⟨c0, fun u hu => ⟨by omega, by omega, ?_⟩⟩
  have := Nat.mul_le_mul_right (2 ^ (u - c0)) h3
  rw [Nat.mul_assoc, ← Nat.pow_add, Nat.mul_assoc, ← Nat.pow_add] at this
  rw [show (p + u).toNat = (p + c0).toNat + (u - c0) by omega, show (E + u).toNat = (E + c0).toNat + (u - c0) by omega]
  exact this

/-- what a number is rounded to, in words of what is kept -/
theorem near_read (k : FloatKind) (neg : Bool) {m kept : Nat} {p last : Int} (hm : m ≠ 0) (hl : last = max (p + m.log2 - k.format.fractionBits) k.format.leastPlace) (hk : kept = Toward.even.cut neg (m <<< (p - last).toNat) (last - p).toNat) (hno : (last - k.format.leastPlace).toNat + 2 < 2 ^ k.format.exponentBits - 1) :
    ∃ (m' d : Nat), k.format.read (k.format.nearest neg m p) = .number neg m' (k.format.leastPlace + d) ∧ m' * 2 ^ d = kept * 2 ^ (last - k.format.leastPlace).toNat ∧ (last = k.format.leastPlace ∨ k.format.binade ≤ kept) := by
  have hB : k.format.binade = 2 ^ k.format.fractionBits := rfl
  have hbp : 0 < k.format.binade := Nat.two_pow_pos _
  have hlo : 2 ^ m.log2 ≤ m := Nat.log2_self_le hm
  have h2 : kept ≤ 2 * k.format.binade := by
    have := kept_le m neg k.format.fractionBits p last (by omega)
    rw [← hk, Nat.pow_succ] at this
    rw [hB]; omega
  have h1 : last = k.format.leastPlace ∨ k.format.binade ≤ kept := by
    by_cases hc : last = k.format.leastPlace
    · exact .inl hc
    · right
      have he : last = p + m.log2 - k.format.fractionBits := by omega
      by_cases hp : last ≤ p
      · rw [hk, show (last - p).toNat = 0 by omega, cut_zero, Nat.shiftLeft_eq, hB, show 2 ^ k.format.fractionBits = 2 ^ m.log2 * 2 ^ (p - last).toNat by rw [← Nat.pow_add]; congr 1; omega]
        exact Nat.mul_le_mul_right _ hlo
      · rw [hk, show (p - last).toNat = 0 by omega, Nat.shiftLeft_zero]
        refine le_cut_of neg ?_
        rw [hB, ← Nat.pow_add, show k.format.fractionBits + (last - p).toNat = m.log2 by omega]
        exact hlo
  have hlt : (last - k.format.leastPlace).toNat * k.format.binade + kept < k.format.infRung := by
    rw [inf_eq]
    have := Nat.mul_le_mul_right k.format.binade (show (last - k.format.leastPlace).toNat + 2 + 1 ≤ 2 ^ k.format.exponentBits - 1 by omega)
    rw [Nat.add_mul, Nat.add_mul, Nat.one_mul] at this
    omega
  have hw : k.format.nearest neg m p % k.format.signWeight = (last - k.format.leastPlace).toNat * k.format.binade + kept := by
    unfold Format.nearest
    dsimp only
    rw [if_neg hm, mod_word _ _ (Nat.lt_of_le_of_lt (Nat.min_le_right ..) (inf_lt k)), ← hl, ← hk, Nat.min_eq_left (Nat.le_of_lt hlt)]
  obtain ⟨m', d, hr, hv⟩ := read_V (k := k) (w := k.format.nearest neg m p) (by rw [hw]; exact hlt)
  rw [nearest_sign] at hr
  refine ⟨m', d, hr, ?_, h1⟩
  rw [hv, hw]
  exact V_rung hbp h2 (h1.elim (fun h => .inl (by omega)) .inr)

/-- ROUNDING DOESN'T PASS A NUMBER, from below or from above -/
theorem near_leC (k : FloatKind) (neg : Bool) {m c : Nat} {p E : Int} (h : LeC m p c E) (hc : c < 2 ^ (k.format.fractionBits + 1)) (hE : k.format.leastPlace ≤ E) (hno : (E - k.format.leastPlace).toNat + 2 < 2 ^ k.format.exponentBits - 1) (hl0 : k.format.leastPlace ≤ 0) :
    ∃ (m' : Nat) (p' : Int), k.format.read (k.format.nearest neg m p) = .number neg m' p' ∧ LeC m' p' c E ∧ ∀ F : Int, k.format.leastPlace ≤ F → GeP m p F → GeP m' p' F := by
  by_cases hm : m = 0
  · subst hm
    have : k.format.nearest neg 0 p % k.format.signWeight = 0 := by
      unfold Format.nearest
      dsimp only
      rw [if_pos rfl, mod_word _ _ (Nat.two_pow_pos _)]
    obtain ⟨m', d, hr, hv⟩ := read_V (k := k) (w := k.format.nearest neg 0 p) (by rw [this]; have := binade_le k; have : 0 < k.format.binade := Nat.two_pow_pos _; omega)
    rw [this] at hv
    have hv0 : V k.format.binade 0 = 0 := by have hbp : 0 < k.format.binade := Nat.two_pow_pos _; unfold V; rw [if_pos hbp]
    rw [hv0] at hv
    have hm' : m' = 0 := by
      rcases Nat.eq_zero_or_pos m' with h0 | h0
      · exact h0
      · have := Nat.mul_lt_mul_of_pos_right h0 (Nat.two_pow_pos d); omega
    subst hm'
    rw [nearest_sign] at hr
    refine ⟨_, _, hr, ⟨(-k.format.leastPlace).toNat, by omega, by omega, by rw [Nat.zero_mul]; exact Nat.zero_le _⟩, fun F _ hF => ?_⟩
    obtain ⟨v, _, _, h9⟩ := hF
    rw [Nat.zero_mul] at h9
    have := Nat.two_pow_pos (F + v).toNat
    omega
  · obtain ⟨c0, hu⟩ := h.up
    have hlo : 2 ^ m.log2 ≤ m := Nat.log2_self_le hm
    obtain ⟨last, hlast⟩ : ∃ last, last = max (p + m.log2 - k.format.fractionBits) k.format.leastPlace := ⟨_, rfl⟩
    obtain ⟨u, hu0, hu1, hu2⟩ : ∃ u : Nat, c0 ≤ u ∧ 0 ≤ last + u ∧ 0 ≤ k.format.leastPlace + u := ⟨c0 + (-k.format.leastPlace).toNat, by omega, by omega, by omega⟩
    obtain ⟨h1, h2, h3⟩ := hu u hu0
    have hle : last ≤ E := by
      rcases Int.lt_or_le E last with hlt | hle
      · exfalso
        have h4 : 2 ^ (m.log2 + (p + u).toNat) ≤ m * 2 ^ (p + u).toNat := by rw [Nat.pow_add]; exact Nat.mul_le_mul_right _ hlo
        have h5 : c * 2 ^ (E + u).toNat < 2 ^ (k.format.fractionBits + 1) * 2 ^ (E + u).toNat := Nat.mul_lt_mul_of_pos_right hc (Nat.two_pow_pos _)
        rw [← Nat.pow_add] at h5
        have h6 : 2 ^ (k.format.fractionBits + 1 + (E + u).toNat) ≤ 2 ^ (m.log2 + (p + u).toNat) := Nat.pow_le_pow_right (by decide) (by omega)
        omega
      · exact hle
    obtain ⟨m', d, hr, hv, hB1⟩ := near_read k neg hm hlast rfl (by omega)
    refine ⟨m', _, hr, ⟨u, by omega, h2, ?_⟩, fun F hF1 hF => ?_⟩
    rotate_left
    · obtain ⟨v0, hg⟩ := hF.up
      obtain ⟨v, hv0, hv1, hv2⟩ : ∃ v : Nat, v0 ≤ v ∧ 0 ≤ last + v ∧ 0 ≤ k.format.leastPlace + v := ⟨v0 + (-k.format.leastPlace).toNat, by omega, by omega, by omega⟩
      obtain ⟨g1, g2, g3⟩ := hg v hv0
      have hK : last ≤ F → 2 ^ (F - last).toNat ≤ Toward.even.cut neg (m <<< (p - last).toNat) (last - p).toNat := fun hlF => by
        by_cases hp : last ≤ p
        · rw [show (last - p).toNat = 0 by omega, cut_zero, Nat.shiftLeft_eq]
          rw [show (p + v).toNat = (p - last).toNat + (last + v).toNat by omega, show (F + v).toNat = (F - last).toNat + (last + v).toNat by omega, Nat.pow_add, Nat.pow_add, ← Nat.mul_assoc] at g3
          exact Nat.le_of_mul_le_mul_right g3 (Nat.two_pow_pos _)
        · refine le_cut_of neg ?_
          rw [show (p - last).toNat = 0 by omega, Nat.shiftLeft_zero]
          rw [show (F + v).toNat = (F - last).toNat + (last - p).toNat + (p + v).toNat by omega, Nat.pow_add, Nat.pow_add] at g3
          exact Nat.le_of_mul_le_mul_right g3 (Nat.two_pow_pos _)
      have hL : 2 ^ (F - k.format.leastPlace).toNat ≤ m' * 2 ^ d := by
        rw [hv]
        rcases Int.lt_or_le F last with hlt | hle2
        · have hkp : k.format.binade ≤ Toward.even.cut neg (m <<< (p - last).toNat) (last - p).toNat := hB1.resolve_left (by omega)
          have hbp : 0 < k.format.binade := Nat.two_pow_pos _
          have h9 : 2 ^ (F - k.format.leastPlace).toNat ≤ 2 ^ (last - k.format.leastPlace).toNat := Nat.pow_le_pow_right (by decide) (by omega)
          exact Nat.le_trans h9 (Nat.le_mul_of_pos_left _ (by omega))
        · have h9 := Nat.mul_le_mul_right (2 ^ (last - k.format.leastPlace).toNat) (hK hle2)
          rw [← Nat.pow_add, show (F - last).toNat + (last - k.format.leastPlace).toNat = (F - k.format.leastPlace).toNat by omega] at h9
          exact h9
      refine ⟨v, by omega, g2, ?_⟩
      have h10 := Nat.mul_le_mul_right (2 ^ (k.format.leastPlace + v).toNat) hL
      rw [← Nat.pow_add, Nat.mul_assoc, ← Nat.pow_add] at h10
      rw [show (k.format.leastPlace + (d : Int) + v).toNat = d + (k.format.leastPlace + v).toNat by omega, show (F + v).toNat = (F - k.format.leastPlace).toNat + (k.format.leastPlace + v).toNat by omega]
      exact h10
    have hC : Toward.even.cut neg (m <<< (p - last).toNat) (last - p).toNat ≤ c * 2 ^ (E - last).toNat := by
      by_cases hp : last ≤ p
      · rw [show (last - p).toNat = 0 by omega, cut_zero, Nat.shiftLeft_eq]
        rw [show (p + u).toNat = (p - last).toNat + (last + u).toNat by omega, show (E + u).toNat = (E - last).toNat + (last + u).toNat by omega, Nat.pow_add, Nat.pow_add, ← Nat.mul_assoc, ← Nat.mul_assoc] at h3
        exact Nat.le_of_mul_le_mul_right h3 (Nat.two_pow_pos _)
      · refine cut_le_of neg ?_
        rw [show (p - last).toNat = 0 by omega, Nat.shiftLeft_zero]
        rw [show (E + u).toNat = (E - last).toNat + (last - p).toNat + (p + u).toNat by omega, Nat.pow_add, Nat.pow_add, ← Nat.mul_assoc, ← Nat.mul_assoc] at h3
        exact Nat.le_of_mul_le_mul_right h3 (Nat.two_pow_pos _)
    have h7 := Nat.mul_le_mul_right (2 ^ (last - k.format.leastPlace).toNat) hC
    rw [← hv, Nat.mul_assoc, ← Nat.pow_add] at h7
    have h8 := Nat.mul_le_mul_right (2 ^ (k.format.leastPlace + u).toNat) h7
    rw [Nat.mul_assoc, ← Nat.pow_add, Nat.mul_assoc, ← Nat.pow_add] at h8
    rw [show (k.format.leastPlace + (d : Int) + u).toNat = d + (k.format.leastPlace + u).toNat by omega, show (E + u).toNat = (E - last).toNat + (last - k.format.leastPlace).toNat + (k.format.leastPlace + u).toNat by omega]
    exact h8

theorem LeC.of {m : Nat} {p E : Int} (h : LeP m p E) : LeC m p 1 E := by
  obtain ⟨u, h1, h2, h3⟩ := h
  exact ⟨u, h1, h2, by rw [Nat.one_mul]; exact h3⟩
theorem LeC.pow {m j : Nat} {p E : Int} (h : LeC m p (2 ^ j) E) : LeP m p (E + j) := by
  obtain ⟨u, h1, h2, h3⟩ := h
  exact ⟨u, h1, by omega, by rw [← Nat.pow_add] at h3; rw [show (E + (j : Int) + u).toNat = j + (E + u).toNat by omega]; exact h3⟩
theorem LeC.mono {m c c' : Nat} {p E : Int} (h : LeC m p c E) (hc : c ≤ c') : LeC m p c' E := by
  obtain ⟨u, h1, h2, h3⟩ := h
  exact ⟨u, h1, h2, Nat.le_trans h3 (Nat.mul_le_mul_right _ hc)⟩
/-- a number that is not negative, of at most c * 2 ^ E -/
def FnS (c : Nat) (E : Int) (x : Nat) : Prop := ∃ m p, FloatKind.f32.format.read x = .number false m p ∧ LeC m p c E
def GnS (F : Int) (x : Nat) : Prop := ∃ m p, FloatKind.f32.format.read x = .number false m p ∧ GeP m p F
theorem lp32 : FloatKind.f32.format.leastPlace = -149 := by decide
theorem near_S {m c : Nat} {p E : Int} (h : LeC m p c E) (hc : c < 16777216) (h1 : -100 ≤ E) (h2 : E ≤ 100) : FnS c E (FloatKind.f32.format.nearest false m p) ∧ ∀ F, -100 ≤ F → GeP m p F → GnS F (FloatKind.f32.format.nearest false m p) := by
  obtain ⟨m', p', hr, hl, hg⟩ := near_leC .f32 false h (show c < 2 ^ 24 from hc) (by rw [lp32]; omega) (by rw [lp32]; show (E - -149).toNat + 2 < 255; omega) (by rw [lp32]; omega)
  exact ⟨⟨m', p', hr, hl⟩, fun F hF hG => ⟨m', p', hr, hg F (by rw [lp32]; omega) hG⟩⟩
theorem FnS.fn {x j : Nat} {E : Int} (h : FnS (2 ^ j) E x) : Fn .f32 (E + j) x := let ⟨m, p, hr, hl⟩ := h; ⟨_, m, p, hr, hl.pow⟩
theorem GnS.gn {x : Nat} {F : Int} (h : GnS F x) : Gn .f32 F x := let ⟨m, p, hr, hl⟩ := h; ⟨_, m, p, hr, hl⟩
theorem FnS.mono {c c' x : Nat} {E : Int} (h : FnS c E x) (hc : c ≤ c') : FnS c' E x := let ⟨m, p, hr, hl⟩ := h; ⟨m, p, hr, hl.mono hc⟩
theorem FnS.zero (c : Nat) (E : Int) : FnS c E 0 := by
  refine ⟨0, -149, by decide, (149 + E.natAbs), by omega, by omega, by rw [Nat.zero_mul]; exact Nat.zero_le _⟩
theorem FnS.add {x y c d : Nat} {E : Int} (hx : FnS c E x) (hy : FnS d E y) (hc : c + d < 16777216) (h1 : -100 ≤ E) (h2 : E ≤ 100) : ∃ v, floatBits .add .f32 x y = some v ∧ FnS (c + d) E v ∧ (GnS 0 x ∨ GnS 0 y → GnS 0 v) := by
  obtain ⟨m, i, hr, hl⟩ := hx
  obtain ⟨n, j, hs, hm⟩ := hy
  show ∃ v, ((FloatKind.f32.format.read x).sum (FloatKind.f32.format.read y)).map FloatKind.f32.format.write = some v ∧ _
  have e0 : signed false m (i - min i j).toNat + signed false n (j - min i j).toNat = ((m * 2 ^ (i - min i j).toNat + n * 2 ^ (j - min i j).toNat : Nat) : Int) := by
    unfold signed
    simp [Nat.shiftLeft_eq]
  have e1 : (if ((m * 2 ^ (i - min i j).toNat + n * 2 ^ (j - min i j).toNat : Nat) : Int) = 0 then (false && false) else decide (((m * 2 ^ (i - min i j).toNat + n * 2 ^ (j - min i j).toNat : Nat) : Int) < 0)) = false := by
    split
    · rfl
    · exact decide_eq_false (by omega)
  have hsum : (Datum.number false m i).sum (Datum.number false n j) = some (.number false (m * 2 ^ (i - min i j).toNat + n * 2 ^ (j - min i j).toNat) (min i j)) := by
    simp only [Datum.sum]
    rw [e0, e1, Int.natAbs_natCast]
  have eu : ∀ u : Nat, 0 ≤ i + (u : Int) → 0 ≤ j + (u : Int) → (m * 2 ^ (i - min i j).toNat + n * 2 ^ (j - min i j).toNat) * 2 ^ (min i j + u).toNat = m * 2 ^ (i + u).toNat + n * 2 ^ (j + u).toNat := fun u h3 h4 => by
    rw [Nat.add_mul, Nat.mul_assoc, ← Nat.pow_add, Nat.mul_assoc, ← Nat.pow_add]
    congr 3 <;> omega
  have hL : LeC (m * 2 ^ (i - min i j).toNat + n * 2 ^ (j - min i j).toNat) (min i j) (c + d) E := by
    obtain ⟨u1, k1⟩ := hl.up
    obtain ⟨u2, k2⟩ := hm.up
    obtain ⟨a1, a2, a3⟩ := k1 (u1 + u2) (by omega)
    obtain ⟨b1, _, b3⟩ := k2 (u1 + u2) (by omega)
    refine ⟨u1 + u2, by omega, a2, ?_⟩
    rw [eu _ a1 b1, Nat.add_mul]
    omega
  obtain ⟨hF, hG⟩ := near_S hL hc h1 h2
  refine ⟨_, by rw [hr, hs, hsum]; rfl, hF, fun h => hG 0 (by omega) ?_⟩
  rcases h with ⟨m', i', hr', hg⟩ | ⟨n', j', hs', hg⟩
  · rw [hr] at hr'
    injection hr' with _ e2 e3
    subst e2 e3
    obtain ⟨u0, k1⟩ := hg.up
    obtain ⟨a1, a2, a3⟩ := k1 (u0 + j.natAbs) (by omega)
    refine ⟨u0 + j.natAbs, by omega, a2, ?_⟩
    rw [eu _ a1 (by omega)]
    omega
  · rw [hs] at hs'
    injection hs' with _ e2 e3
    subst e2 e3
    obtain ⟨u0, k1⟩ := hg.up
    obtain ⟨a1, a2, a3⟩ := k1 (u0 + i.natAbs) (by omega)
    refine ⟨u0 + i.natAbs, by omega, a2, ?_⟩
    rw [eu _ (by omega) a1]
    omega

end Flt
end Go.Proofs.Ytgiblioilpedfaa
