/-
  What is proved here: the reference's logarithm of any number, and that of what is told, of both packages. Conditions: words fit their kinds.
-/
import Derived.Test.YthhimielelpcoaaLgd
import Derived.Test.YthhimielelpcoaaRosA
namespace Go.Proofs.Ythhimielelpcoaa
open Flt Go.RowKit
set_option linter.unusedVariables false
namespace Lc
theorem inf_any (w : World) : Calls Try.prog 150 #[.int .i64 (-1)] w fun e w' => e = .returned (.float .f64 18442240474082181120) ∧ w = w' := by
  have h2 := f64frombits
  go_enter Try.func150, Try.ntmps150
  go_wp2
  go_ret
  exact ⟨rfl, rfl⟩

theorem specLogNaN (y : Nat) (hn : nanW .f64 y = true) (w : World) : Calls Try.prog 117 #[.float .f64 y] w (FPost .f64 none w) := by
  have t1 : (FloatKind.f64.format.order y y != some .eq) = true := by rw [self_ne]; exact hn
  clear hn
  go_enter Try.func117, Try.ntmps117
  go_wp2_with (go_at_call 149; refine (nan_any _).mono ?_; rintro e w' ⟨rfl, rfl⟩)
  go_ret
  exact fpost0 (by decide) ⟨by decide⟩

theorem specLogNeg (y : Nat) (hn : nanW .f64 y = false) (t2 : FloatKind.f64.format.order y 0 = some .lt) (w : World) : Calls Try.prog 117 #[.float .f64 y] w (FPost .f64 none w) := by
  have t1 : (FloatKind.f64.format.order y y != some .eq) = false := by rw [self_ne]; exact hn
  clear hn
  go_enter Try.func117, Try.ntmps117
  go_wp2_with (go_at_call 149; refine (nan_any _).mono ?_; rintro e w' ⟨rfl, rfl⟩)
  go_ret
  exact fpost0 (by decide) ⟨by decide⟩

theorem specLogZero (y : Nat) (hn : nanW .f64 y = false) (t2 : FloatKind.f64.format.order y 0 = some .eq) (w : World) : Calls Try.prog 117 #[.float .f64 y] w (FPost .f64 (some 18442240474082181120) w) := by
  have t1 : (FloatKind.f64.format.order y y != some .eq) = false := by rw [self_ne]; exact hn
  clear hn
  go_enter Try.func117, Try.ntmps117
  go_wp2_with (go_at_call 150; refine (inf_any _).mono ?_; rintro e w' ⟨rfl, rfl⟩)
  go_ret
  exact fpost0 (by decide) ⟨by decide⟩

theorem specLogInf (w : World) : Calls Try.prog 117 #[.float .f64 9218868437227405312] w (FPost .f64 (some 9218868437227405312) w) := by
  have t1 : (FloatKind.f64.format.order 9218868437227405312 9218868437227405312 != some .eq) = false := by decide
  have t2 : FloatKind.f64.format.order 9218868437227405312 0 = some .gt := by decide
  have t3 : FloatKind.f64.format.order 9218868437227405312 9218868437227405311 = some .gt := by decide
  go_enter Try.func117, Try.ntmps117
  go_wp2_with (go_at_call 151; refine (isInf1_any _ _).mono ?_; rintro e w' ⟨rfl, rfl⟩)
  go_ret
  exact fpost0 (by decide) ⟨by decide⟩

theorem ok_some {r v : Nat} (hv : ∃ q, floatToFloatBits .f64 v .f32 = some q) (h : Hid (can .f64 r = some v)) : okNar (can .f64 r) := by
  rw [h.out]; intro x hx; cases hx; exact hv

theorem ok_log {y r : Nat} (g : Rng y) (h : Hid (can .f64 r = logF (nW y) (nE y))) : okNar (can .f64 r) := by
  rw [h.out]; exact okNar_of_Bd (Bd_logF g) (by decide)

/-- the walk of the model over what its inner function gives -/
theorem specLogOf (x : Nat) (c : Option Nat) (hin : ∀ r w, Hid (can .f64 r = wid (can .f32 x)) → Calls Try.prog 117 #[.float .f64 r] w (FPost .f64 c w)) (hok : okNar c) (w : World) :
    Calls Try.prog 70 #[.float .f32 x] w (FPost .f32 (nar c) w) := by
  have HI := Lib.hid hin
  have HO := Lib.hid hok
  clear hin hok
  go_enter Try.func70, Try.ntmps70
  go_wp2_with (first | ((with_reducible refine upon_wid ?_ ?_ ?_); rotate_left 2; intro _ _ _ _; rotate_left 1; kernel_rfl; kernel_rfl) | (go_at_call 117; refine (HI.out _ _ (by assumption)).mono ?_; rintro e w' ⟨g, n, rfl, rfl, hc, hg⟩) | ((with_reducible refine upon_nar ?_ ?_ (by rw [Hid.out hc]; exact HO.out) ?_); rotate_left 2; intro _ _ _ _; rotate_left 1; kernel_rfl; kernel_rfl) | go_in)
  rename_i r n1 wr er t n3 wt et
  go_ret
  exact fpost (by rw [et.out, hc.out]) wt

/-- which side of zero -/
def side (k : FloatKind) (x : Nat) : Ordering := if x % k.format.signWeight = 0 then .eq else if (x / k.format.signWeight % 2 == 1) = true then .lt else .gt

theorem ord0 {k : FloatKind} {x : Nat} (hn : nanW k x = false) : k.format.order x 0 = some (side k x) := by
  have hB : 0 < k.format.binade := Nat.two_pow_pos _
  have hb := binade_le k
  unfold side
  rcases three k x with h1 | h1 | h1
  · rw [order_sV h1 (by rw [Nat.zero_mod]; omega), sV_zero]
    by_cases h0 : x % k.format.signWeight = 0
    · rw [if_pos h0]
      unfold sV
      rw [h0, (V_zero_iff hB).2 rfl]
      simp
    · rw [if_neg h0]
      have hv : V k.format.binade (x % k.format.signWeight) ≠ 0 := fun h => h0 ((V_zero_iff hB).1 h)
      unfold sV
      generalize V k.format.binade (x % k.format.signWeight) = v at *
      cases (x / k.format.signWeight % 2 == 1)
      · simp only [Bool.false_eq_true, if_false, compare, compareOfLessAndEq]; rw [if_neg (by omega), if_neg (by omega)]
      · simp only [if_true, compare, compareOfLessAndEq]; rw [if_pos (by omega)]
  · have h2 : (k.format.order x 0) = (Ieee.Datum.infinity (x / k.format.signWeight % 2 == 1)).order (k.format.read 0) := by show (k.format.read x).order _ = _; rw [read_inf h1]
    obtain ⟨m, d, hr, _⟩ := read_V (k := k) (w := 0) (by rw [Nat.zero_mod]; omega)
    rw [h2, hr, if_neg (by omega)]
    cases (x / k.format.signWeight % 2 == 1) <;> rfl
  · rw [nanW_of_lt h1] at hn; cases hn

theorem side_wid {x r : Nat} (hn : nanW .f32 x = false) (h : Hid (can .f64 r = wid (can .f32 x))) : side .f64 r = side .f32 x ∧ nanW .f64 r = false := by
  have hr := wid_none h.out
  refine ⟨?_, by rw [hr]; exact hn⟩
  unfold side
  rcases three .f32 x with h1 | h1 | h1
  · obtain ⟨g1, g2, _⟩ := widen_V h1 h.out
    rw [g2]
    have : r % FloatKind.f64.format.signWeight = 0 ↔ x % FloatKind.f32.format.signWeight = 0 := by
      rw [← V_zero_iff (B := FloatKind.f64.format.binade) (Nat.two_pow_pos _), g1, ← V_zero_iff (B := FloatKind.f32.format.binade) (w := x % FloatKind.f32.format.signWeight) (Nat.two_pow_pos _)]
      constructor
      · intro h
        rcases Nat.mul_eq_zero.1 h with h | h
        · exact h
        · have := Nat.two_pow_pos gap; omega
      · intro h; rw [h, Nat.zero_mul]
    by_cases h0 : x % FloatKind.f32.format.signWeight = 0
    · rw [if_pos h0, if_pos (this.2 h0)]
    · rw [if_neg h0, if_neg (fun h => h0 (this.1 h))]
  · have hw : wid (some x) = some _ := widen_inf h1
    have h := h.out
    rw [can_num hn, hw] at h
    obtain ⟨_, rfl⟩ := can_eq_some h
    rw [mod_word _ _ (inf_lt _), word_div _ _ (inf_lt _), h1, if_neg (show ¬ FloatKind.f64.format.infRung = 0 by rw [inf64]; decide), if_neg (show ¬ FloatKind.f32.format.infRung = 0 by rw [inf32]; decide)]
  · rw [nanW_of_lt h1] at hn; cases hn

theorem V_lo (t : Nat) (ht : t = 869) : V FloatKind.f64.format.binade 3918131675812331520 = 2 ^ 52 * 2 ^ t := by
  rw [V_norm (by decide), show 3918131675812331520 / 4503599627370496 - 1 = t by rw [ht], show 4503599627370496 + 3918131675812331520 % 4503599627370496 = 2 ^ 52 by decide]

/-- of a finite positive number the widened word is in range -/
theorem rng_wid {x y : Nat} (hs : side .f32 x = .gt) (h1 : x % FloatKind.f32.format.signWeight < FloatKind.f32.format.infRung) (hy : floatToFloatBits .f32 x .f64 = some y) : Rng y := by
  obtain ⟨y', hy', hsm, hn⟩ := widen_finite h1
  rw [hy'] at hy
  cases hy
  have hc : can .f64 y = wid (can .f32 x) := by
    rw [can_num hn, can_num (nanW_of_le (Nat.le_of_lt h1))]; exact hy'.symm
  obtain ⟨g1, g2, g3⟩ := widen_V h1 hc
  have hyl := (conv_wf (by decide) hy').lt64
  unfold side at hs
  have hx0 : x % FloatKind.f32.format.signWeight ≠ 0 := by
    intro h; rw [if_pos h] at hs; cases hs
  rw [if_neg hx0] at hs
  have hsg : ¬ (x / FloatKind.f32.format.signWeight % 2 == 1) = true := by
    intro h; rw [if_pos h] at hs; cases hs
  rw [← g2] at hsg
  have hym : y % FloatKind.f64.format.signWeight = y := by
    rw [sw64] at hsg ⊢
    have : y / 9223372036854775808 % 2 ≠ 1 := by simpa using hsg
    omega
  rw [hym] at g1
  unfold Sm at hsm
  rw [hym, bi64] at hsm
  refine ⟨?_, by omega⟩
  have hV : 1 ≤ V FloatKind.f32.format.binade (x % FloatKind.f32.format.signWeight) := by
    have := (V_zero_iff (B := FloatKind.f32.format.binade) (w := x % FloatKind.f32.format.signWeight) (Nat.two_pow_pos _)).1
    rcases Nat.eq_zero_or_pos (V FloatKind.f32.format.binade (x % FloatKind.f32.format.signWeight)) with h | h
    · exact absurd (this h) hx0
    · exact h
  rcases Nat.lt_or_ge y 3918131675812331520 with hlt | hge
  · exfalso
    have h3 := V_lt (B := FloatKind.f64.format.binade) (Nat.two_pow_pos _) hlt
    obtain ⟨t, ht⟩ : ∃ t : Nat, t = 869 := ⟨_, rfl⟩
    have h4 : 2 ^ 52 * 2 ^ t ≤ 2 ^ gap := by
      rw [← Nat.pow_add]
      exact Nat.pow_le_pow_right (by decide) (by rw [gap_eq]; omega)
    rw [V_lo t ht, g1] at h3
    have h5 := Nat.mul_le_mul_right (2 ^ gap) hV
    rw [Nat.one_mul] at h5
    exact absurd (Nat.lt_of_le_of_lt h5 h3) (Nat.not_lt.2 h4)
  · exact hge


theorem lg_bad (x : Nat) (hx : WF .f32 x) (h : abvB x = false) : ∃ c, finO c = false ∧ ∀ w, Calls Try.prog 70 #[.float .f32 x] w (FPost .f32 c w) := by
  cases hn : nanW .f32 x with
  | true => exact ⟨nar none, rfl, specLogOf x none (fun r w h => specLogNaN r (by rw [wid_none h.out]; exact hn) w) (fun v hv => by cases hv)⟩
  | false =>
    have h0 := ord0 hn
    cases hs : side .f32 x with
    | lt =>
      rw [hs] at h0
      refine ⟨nar none, rfl, specLogOf x none (fun r w h => ?_) (fun v hv => by cases hv)⟩
      obtain ⟨g1, g2⟩ := side_wid hn h
      exact specLogNeg r g2 (by rw [ord0 g2, g1, hs]) w
    | eq =>
      rw [hs] at h0
      refine ⟨nar (some 18442240474082181120), by decide, specLogOf x _ (fun r w h => ?_) (fun v hv => by cases hv; exact ⟨4286578688, by decide⟩)⟩
      obtain ⟨g1, g2⟩ := side_wid hn h
      exact specLogZero r g2 (by rw [ord0 g2, g1, hs]) w
    | gt =>
      rw [hs] at h0
      unfold side at hs
      have hx0 : x % FloatKind.f32.format.signWeight ≠ 0 := by
        intro h; rw [if_pos h] at hs; cases hs
      rw [if_neg hx0] at hs
      have hsg : ¬ (x / FloatKind.f32.format.signWeight % 2 == 1) = true := by
        intro h; rw [if_pos h] at hs; cases hs
      have hxl := hx.lt32
      rcases three .f32 x with h1 | h1 | h1
      · have hf : finB .f32 x = true := decide_eq_true h1
        unfold abvB at h
        rw [hf, h0] at h
        cases h
      · have hxe : x = 2139095040 := by
          rw [sw32] at hsg h1
          rw [inf32] at h1
          have : x / 2147483648 % 2 ≠ 1 := by simpa using hsg
          omega
        subst hxe
        refine ⟨nar (some 9218868437227405312), by decide, specLogOf _ _ (fun q w h => ?_) (fun v hv => by cases hv; exact ⟨2139095040, by decide⟩)⟩
        have h := h.out
        rw [show wid (can .f32 2139095040) = some 9218868437227405312 by decide] at h
        obtain ⟨_, rfl⟩ := can_eq_some h
        exact specLogInf w
      · rw [nanW_of_lt h1] at hn; cases hn
end Lc
/-- the logarithm of what is told, of both packages -/
def LgM (M c : Option Nat) : Prop := (∀ x, WF .f32 x → can .f32 x = M → ∀ w, Calls Try.prog 70 #[.float .f32 x] w (FPost .f32 c w)) ∧ ((∃ x, WF .f32 x ∧ can .f32 x = M ∧ abvB x = false) → finO c = false) ∧ (∀ x, can .f32 x = M → abvB x = true → (∀ w, Calls Try.prog 70 #[.float .f32 x] w (FPost .f32 c w)) ∧ ∀ w, Calls Try.prog 185 #[.float .f32 x] w (FPost .f32 c w))
theorem abv_num {x : Nat} (h : abvB x = true) : nanW .f32 x = false := by
  unfold abvB at h
  rw [Bool.and_eq_true] at h
  exact nanW_of_le (Nat.le_of_lt (of_decide_eq_true h.1))
theorem lgM_any (M : Option Nat) : ∃ c, LgM M c := by
  cases M with
  | none =>
    refine ⟨none, fun x hx hc => ?_, fun _ => rfl, fun x hc ha => ?_⟩
    · have hn : nanW .f32 x = true := by
        cases e : nanW .f32 x with
        | true => rfl
        | false => rw [can_num e] at hc; cases hc
      exact Lc.specLogOf x none (fun r w h => Lc.specLogNaN r (by rw [wid_none h.out]; exact hn) w) (fun v hv => by cases hv)
    · rw [can_num (abv_num ha)] at hc; cases hc
  | some y =>
    cases ha : abvB y with
    | true =>
      obtain ⟨c, h1, h2⟩ := lg_both y ha
      refine ⟨c, fun x hx hc => ?_, fun ⟨x, _, hc, hb⟩ => ?_, fun x hc _ => ?_⟩
      · obtain ⟨_, rfl⟩ := can_eq_some hc
        exact h1
      · obtain ⟨_, rfl⟩ := can_eq_some hc
        rw [ha] at hb; cases hb
      · obtain ⟨_, rfl⟩ := can_eq_some hc
        exact ⟨h1, h2⟩
    | false =>
      by_cases hw : WF .f32 y
      · obtain ⟨c, h1, h2⟩ := Lc.lg_bad y hw ha
        refine ⟨c, fun x hx hc => ?_, fun _ => h1, fun x hc hb => ?_⟩
        · obtain ⟨_, rfl⟩ := can_eq_some hc
          exact h2
        · obtain ⟨_, rfl⟩ := can_eq_some hc
          rw [ha] at hb; cases hb
      · refine ⟨none, fun x hx hc => ?_, fun _ => rfl, fun x hc hb => ?_⟩
        · obtain ⟨_, rfl⟩ := can_eq_some hc
          exact absurd hx hw
        · obtain ⟨_, rfl⟩ := can_eq_some hc
          rw [ha] at hb; cases hb
end Go.Proofs.Ythhimielelpcoaa
