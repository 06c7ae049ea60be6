/-
  What is proved here: logarithms of finite numbers greater than nothing, of both packages, as walks. Conditions: as each theorem names.
-/
import Derived.Test.YthhimielelpcoaaMea
import Derived.Test.YthhimielelpcoaaLogB
import Derived.Test.YthhimielelpcoaaSinC
namespace Go.Proofs.Ythhimielelpcoaa
open Flt Go.RowKit
set_option linter.unusedVariables false

theorem ok_lg {y r : Nat} (g : Rng y) (h : Hid (can .f64 r = logF (nW y) (nE y))) : okNar (can .f64 r) := by
  rw [h.out]; exact okNar_of_Bd (Bd_logF g) (by decide)
theorem V_lq (t : Nat) (ht : t = 869) : V FloatKind.f64.format.binade 3918131675812331520 = 2 ^ 52 * 2 ^ t := by
  rw [V_norm (by decide), show 3918131675812331520 / 4503599627370496 - 1 = t by rw [ht], show 4503599627370496 + 3918131675812331520 % 4503599627370496 = 2 ^ 52 by decide]
/-- of a finite positive number the widened word is in range -/
theorem rng_of {x y : Nat} (hs : side .f32 x = .gt) (h1 : x % FloatKind.f32.format.signWeight < FloatKind.f32.format.infRung) (hy : floatToFloatBits .f32 x .f64 = some y) : Rng y := by
  obtain ⟨y', hy', hsm, hn⟩ := widen_finite h1
  rw [hy'] at hy
  cases hy
  have hc : can .f64 y = wid (can .f32 x) := by
    rw [can_num hn, can_num (nanW_of_le (Nat.le_of_lt h1))]; exact hy'.symm
  obtain ⟨g1, g2, g3⟩ := widen_V h1 hc
  have hyl := (conv_wf (by decide) hy').lt64
  unfold side at hs
  have hx0 : x % FloatKind.f32.format.signWeight ≠ 0 := by
    intro h; rw [if_pos h] at hs; cases hs
  rw [if_neg hx0] at hs
  have hsg : ¬ (x / FloatKind.f32.format.signWeight % 2 == 1) = true := by
    intro h; rw [if_pos h] at hs; cases hs
  rw [← g2] at hsg
  have hym : y % FloatKind.f64.format.signWeight = y := by
    rw [sw64] at hsg ⊢
    have : y / 9223372036854775808 % 2 ≠ 1 := by simpa using hsg
    omega
  rw [hym] at g1
  unfold Sm at hsm
  rw [hym, bi64] at hsm
  refine ⟨?_, by omega⟩
  have hV : 1 ≤ V FloatKind.f32.format.binade (x % FloatKind.f32.format.signWeight) := by
    have := (V_zero_iff (B := FloatKind.f32.format.binade) (w := x % FloatKind.f32.format.signWeight) (Nat.two_pow_pos _)).1
    rcases Nat.eq_zero_or_pos (V FloatKind.f32.format.binade (x % FloatKind.f32.format.signWeight)) with h | h
    · exact absurd (this h) hx0
    · exact h
  rcases Nat.lt_or_ge y 3918131675812331520 with hlt | hge
  · exfalso
    have h3 := V_lt (B := FloatKind.f64.format.binade) (Nat.two_pow_pos _) hlt
    obtain ⟨t, ht⟩ : ∃ t : Nat, t = 869 := ⟨_, rfl⟩
    have h4 : 2 ^ 52 * 2 ^ t ≤ 2 ^ gap := by
      rw [← Nat.pow_add]
      exact Nat.pow_le_pow_right (by decide) (by rw [gap_eq]; omega)
    rw [V_lq t ht, g1] at h3
    have h5 := Nat.mul_le_mul_right (2 ^ gap) hV
    rw [Nat.one_mul] at h5
    exact absurd (Nat.lt_of_le_of_lt h5 h3) (Nat.not_lt.2 h4)
  · exact hge

theorem specLgPos (x y : Nat) (hn : nanW .f32 x = false) (hy : floatToFloatBits .f32 x .f64 = some y) (r : Rng y) (w : World) : Calls Try.prog 70 #[.float .f32 x] w (FPost .f32 (nar (logF (nW y) (nE y))) w) := by
  have Hy := Lib.hid hy
  clear hn hy
  go_enter Try.func70, Try.ntmps70
  go_wp2_with (first | ((with_reducible refine upon_wid_eq Hy.out ?_ ?_ ?_); rotate_left 2; rotate_left 1; kernel_rfl; kernel_rfl) | (go_at_call 117; refine (specLogWide _ r _).mono ?_; rintro e w' ⟨g, n, rfl, rfl, hc, hg⟩) | ((with_reducible refine upon_nar ?_ ?_ (ok_lg r (by assumption)) ?_); rotate_left 2; intro _ _ _ _; rotate_left 1; kernel_rfl; kernel_rfl) | go_in)
  rename_i t n3 wt et
  go_ret
  exact fpost (by rw [et.out, hc.out]) wt
theorem implLgPos (x y : Nat) (hn : nanW .f32 x = false) (hf : finB .f32 x = true) (t : FloatKind.f32.format.order x 0 = some .gt) (hy : floatToFloatBits .f32 x .f64 = some y) (r : Rng y) (w : World) : Calls Try.prog 185 #[.float .f32 x] w (FPost .f32 (nar (logF (nW y) (nE y))) w) := by
  have HN := Lib.hid hn
  have HF := Lib.hid hf
  have Hy := Lib.hid hy
  clear hn hf hy
  go_enter Try.func185, Try.ntmps185
  go_wp2_with (first | ((with_reducible refine upon_wid_eq Hy.out ?_ ?_ ?_); rotate_left 2; rotate_left 1; kernel_rfl; kernel_rfl) | (go_at_call 163; refine (isNaN_any _ _).mono ?_; rintro e w' ⟨rfl, n, rfl⟩; rw [HN.out]) | (go_at_call 129; refine (implFin _ _).mono ?_; rintro e w' ⟨rfl, n, rfl⟩; rw [HF.out]) | (go_at_call 204; refine (log_any _ r _).mono ?_; rintro e w' ⟨g, n, rfl, rfl, hc, hg⟩) | ((with_reducible refine upon_nar ?_ ?_ (ok_lg r (by assumption)) ?_); rotate_left 2; intro _ _ _ _; rotate_left 1; kernel_rfl; kernel_rfl) | go_in)
  rename_i t n3 wt et
  go_ret
  exact fpost (by rw [et.out, hc.out]) wt
/-- both logarithms of a finite number greater than nothing -/
theorem lg_both (x : Nat) (h : abvB x = true) : ∃ c, (∀ w, Calls Try.prog 70 #[.float .f32 x] w (FPost .f32 c w)) ∧ (∀ w, Calls Try.prog 185 #[.float .f32 x] w (FPost .f32 c w)) := by
  unfold abvB at h
  rw [Bool.and_eq_true] at h
  obtain ⟨hf, ht⟩ := h
  have t := eq_of_beq ht
  have h1 : x % FloatKind.f32.format.signWeight < FloatKind.f32.format.infRung := of_decide_eq_true hf
  have hn : nanW .f32 x = false := nanW_of_le (Nat.le_of_lt h1)
  have hs : side .f32 x = .gt := by
    have := ord0 hn
    rw [t] at this
    exact (Option.some.inj this).symm
  obtain ⟨y, hy, _, _⟩ := widen_finite h1
  have r := rng_of hs h1 hy
  exact ⟨_, specLgPos x y hn hy r, implLgPos x y hn hf t hy r⟩

theorem infN_any (w : World) : Calls Try.prog 150 #[.int .i64 (-1)] w fun e w' => e = .returned (.float .f64 18442240474082181120) ∧ w = w' := by
  have h2 := f64frombits
  go_enter Try.func150, Try.ntmps150
  go_wp2
  go_ret
  exact ⟨rfl, rfl⟩
theorem implLgNeg (x : Nat) (hn : nanW .f32 x = false) (t : FloatKind.f32.format.order x 0 = some .lt) (w : World) : Calls Try.prog 185 #[.float .f32 x] w (FPost .f32 none w) := by
  have HN := Lib.hid hn
  clear hn
  go_enter Try.func185, Try.ntmps185
  go_wp2_with (first | (go_at_call 163; refine (isNaN_any _ _).mono ?_; rintro e w' ⟨rfl, n, rfl⟩; rw [HN.out]) | (go_at_call 165; refine (nan32_any _).mono ?_; rintro e w' ⟨rfl, rfl⟩))
  go_ret
  exact fpost (by decide) ⟨by decide⟩
theorem implLgZero (x : Nat) (hn : nanW .f32 x = false) (t : FloatKind.f32.format.order x 0 = some .eq) (w : World) : Calls Try.prog 185 #[.float .f32 x] w (FPost .f32 (some 4286578688) w) := by
  have HN := Lib.hid hn
  have hcv : ∀ w, (convert 48 43 (.float .f64 18442240474082181120)).run Try.prog w = .ok (.float .f32 4286578688) w := fun w => run_convert_float_float w _ _ .f64 .f32 _ _ (by kernel_rfl) (by kernel_rfl) (by decide)
  clear hn
  go_enter Try.func185, Try.ntmps185
  go_wp2_with (first | (go_at_call 163; refine (isNaN_any _ _).mono ?_; rintro e w' ⟨rfl, n, rfl⟩; rw [HN.out]) | (go_at_call 150; refine (infN_any _).mono ?_; rintro e w' ⟨rfl, rfl⟩))
  go_ret
  exact fpost (by decide) ⟨by decide⟩
/-- greater than nothing -/
def posB (x : Nat) : Bool := FloatKind.f32.format.order x 0 == some .gt
theorem lg_any (x : Nat) (hf : finB .f32 x = true) : ∃ c, (∀ w, Calls Try.prog 185 #[.float .f32 x] w (FPost .f32 c w)) := by
  have h1 : x % FloatKind.f32.format.signWeight < FloatKind.f32.format.infRung := of_decide_eq_true hf
  have hn : nanW .f32 x = false := nanW_of_le (Nat.le_of_lt h1)
  have h0 := ord0 hn
  cases hs : side .f32 x with
  | lt => rw [hs] at h0; exact ⟨_, implLgNeg x hn h0⟩
  | eq => rw [hs] at h0; exact ⟨_, implLgZero x hn h0⟩
  | gt =>
    rw [hs] at h0
    obtain ⟨y, hy, _, _⟩ := widen_finite h1
    exact ⟨_, implLgPos x y hn hf h0 hy (rng_of hs h1 hy)⟩

end Go.Proofs.Ythhimielelpcoaa
