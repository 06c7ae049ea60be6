/-
  What is proved here: the law LogNumber as a walk, whatever is drawn. Conditions: words fit their kinds.
-/
import Derived.Test.YtckhdbnoihieeaaDoorLogB
import Derived.Test.YtckhdbnoihieeaaDoorSub
namespace Go.Proofs.YtckhdbnoihieeaaDoor
open Flt Go.RowKit






theorem ok_some {r v : Nat} (hv : ∃ q, floatToFloatBits .f64 v .f32 = some q) (h : Hid (can .f64 r = some v)) : okNar (can .f64 r) := by
  rw [h.out]; intro x hx; cases hx; exact hv

theorem ok_log {y r : Nat} (g : Rng y) (h : Hid (can .f64 r = logF (nW y) (nE y))) : okNar (can .f64 r) := by
  rw [h.out]; exact okNar_of_Bd (Bd_logF g) (by decide)


/-- which side of zero -/
def side (k : FloatKind) (x : Nat) : Ordering := if x % k.format.signWeight = 0 then .eq else if (x / k.format.signWeight % 2 == 1) = true then .lt else .gt

theorem ord0 {k : FloatKind} {x : Nat} (hn : nanW k x = false) : k.format.order x 0 = some (side k x) := by
  have hB : 0 < k.format.binade := Nat.two_pow_pos _
  have hb := binade_le k
  unfold side
  rcases three k x with h1 | h1 | h1
  · rw [order_sV h1 (by rw [Nat.zero_mod]; omega), sV_zero]
    by_cases h0 : x % k.format.signWeight = 0
    · rw [if_pos h0]
      unfold sV
      rw [h0, (V_zero_iff hB).2 rfl]
      simp
    · rw [if_neg h0]
      have hv : V k.format.binade (x % k.format.signWeight) ≠ 0 := fun h => h0 ((V_zero_iff hB).1 h)
      unfold sV
      generalize V k.format.binade (x % k.format.signWeight) = v at *
      cases (x / k.format.signWeight % 2 == 1)
      · simp only [Bool.false_eq_true, if_false, compare, compareOfLessAndEq]; rw [if_neg (by omega), if_neg (by omega)]
      · simp only [if_true, compare, compareOfLessAndEq]; rw [if_pos (by omega)]
  · have h2 : (k.format.order x 0) = (Ieee.Datum.infinity (x / k.format.signWeight % 2 == 1)).order (k.format.read 0) := by show (k.format.read x).order _ = _; rw [read_inf h1]
    obtain ⟨m, d, hr, _⟩ := read_V (k := k) (w := 0) (by rw [Nat.zero_mod]; omega)
    rw [h2, hr, if_neg (by omega)]
    cases (x / k.format.signWeight % 2 == 1) <;> rfl
  · rw [nanW_of_lt h1] at hn; cases hn

theorem side_wid {x r : Nat} (hn : nanW .f32 x = false) (h : Hid (can .f64 r = wid (can .f32 x))) : side .f64 r = side .f32 x ∧ nanW .f64 r = false := by
  have hr := wid_none h.out
  refine ⟨?_, by rw [hr]; exact hn⟩
  unfold side
  rcases three .f32 x with h1 | h1 | h1
  · obtain ⟨g1, g2, _⟩ := widen_V h1 h.out
    rw [g2]
    have : r % FloatKind.f64.format.signWeight = 0 ↔ x % FloatKind.f32.format.signWeight = 0 := by
      rw [← V_zero_iff (B := FloatKind.f64.format.binade) (Nat.two_pow_pos _), g1, ← V_zero_iff (B := FloatKind.f32.format.binade) (w := x % FloatKind.f32.format.signWeight) (Nat.two_pow_pos _)]
      constructor
      · intro h
        rcases Nat.mul_eq_zero.1 h with h | h
        · exact h
        · have := Nat.two_pow_pos gap; omega
      · intro h; rw [h, Nat.zero_mul]
    by_cases h0 : x % FloatKind.f32.format.signWeight = 0
    · rw [if_pos h0, if_pos (this.2 h0)]
    · rw [if_neg h0, if_neg (fun h => h0 (this.1 h))]
  · have hw : wid (some x) = some _ := widen_inf h1
    have h := h.out
    rw [can_num hn, hw] at h
    obtain ⟨_, rfl⟩ := can_eq_some h
    rw [mod_word _ _ (inf_lt _), word_div _ _ (inf_lt _), h1, if_neg (show ¬ FloatKind.f64.format.infRung = 0 by rw [inf64]; decide), if_neg (show ¬ FloatKind.f32.format.infRung = 0 by rw [inf32]; decide)]
  · rw [nanW_of_lt h1] at hn; cases hn

theorem V_lo (t : Nat) (ht : t = 869) : V FloatKind.f64.format.binade 3918131675812331520 = 2 ^ 52 * 2 ^ t := by
  rw [V_norm (by decide), show 3918131675812331520 / 4503599627370496 - 1 = t by rw [ht], show 4503599627370496 + 3918131675812331520 % 4503599627370496 = 2 ^ 52 by decide]

/-- of a finite positive number the widened word is in range -/
theorem rng_wid {x y : Nat} (hs : side .f32 x = .gt) (h1 : x % FloatKind.f32.format.signWeight < FloatKind.f32.format.infRung) (hy : floatToFloatBits .f32 x .f64 = some y) : Rng y := by
  obtain ⟨y', hy', hsm, hn⟩ := widen_finite h1
  rw [hy'] at hy
  cases hy
  have hc : can .f64 y = wid (can .f32 x) := by
    rw [can_num hn, can_num (nanW_of_le (Nat.le_of_lt h1))]; exact hy'.symm
  obtain ⟨g1, g2, g3⟩ := widen_V h1 hc
  have hyl := (conv_wf (by decide) hy').lt64
  unfold side at hs
  have hx0 : x % FloatKind.f32.format.signWeight ≠ 0 := by
    intro h; rw [if_pos h] at hs; cases hs
  rw [if_neg hx0] at hs
  have hsg : ¬ (x / FloatKind.f32.format.signWeight % 2 == 1) = true := by
    intro h; rw [if_pos h] at hs; cases hs
  rw [← g2] at hsg
  have hym : y % FloatKind.f64.format.signWeight = y := by
    rw [sw64] at hsg ⊢
    have : y / 9223372036854775808 % 2 ≠ 1 := by simpa using hsg
    omega
  rw [hym] at g1
  unfold Sm at hsm
  rw [hym, bi64] at hsm
  refine ⟨?_, by omega⟩
  have hV : 1 ≤ V FloatKind.f32.format.binade (x % FloatKind.f32.format.signWeight) := by
    have := (V_zero_iff (B := FloatKind.f32.format.binade) (w := x % FloatKind.f32.format.signWeight) (Nat.two_pow_pos _)).1
    rcases Nat.eq_zero_or_pos (V FloatKind.f32.format.binade (x % FloatKind.f32.format.signWeight)) with h | h
    · exact absurd (this h) hx0
    · exact h
  rcases Nat.lt_or_ge y 3918131675812331520 with hlt | hge
  · exfalso
    have h3 := V_lt (B := FloatKind.f64.format.binade) (Nat.two_pow_pos _) hlt
    obtain ⟨t, ht⟩ : ∃ t : Nat, t = 869 := ⟨_, rfl⟩
    have h4 : 2 ^ 52 * 2 ^ t ≤ 2 ^ gap := by
      rw [← Nat.pow_add]
      exact Nat.pow_le_pow_right (by decide) (by rw [gap_eq]; omega)
    rw [V_lo t ht, g1] at h3
    have h5 := Nat.mul_le_mul_right (2 ^ gap) hV
    rw [Nat.one_mul] at h5
    exact absurd (Nat.lt_of_le_of_lt h5 h3) (Nat.not_lt.2 h4)
  · exact hge








end Go.Proofs.YtckhdbnoihieeaaDoor
