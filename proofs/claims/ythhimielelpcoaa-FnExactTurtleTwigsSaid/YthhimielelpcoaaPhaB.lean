/-
  What is proved here: the law PhasorOf as a walk, whatever is drawn: numbers that are not finite, great ones, and the law. Conditions: words fit their kinds.
-/
import Derived.Test.YthhimielelpcoaaPha
namespace Go.Proofs.Ythhimielelpcoaa
open Flt Go.RowKit

theorem known_of {y : Nat} (h : y % FloatKind.f64.format.signWeight < 4841369599423283200) : ∃ n K v u nu nv, Known y n K v u nu nv := by
  obtain ⟨s, m, k, _, _, _, _, hi⟩ := trunc_small h
  obtain ⟨f, hf⟩ := frac_some h
  have hb := Bd_fracF h
  rw [hf] at hb
  obtain ⟨K, v, k1, k2, k3, k4, k5⟩ := quarters hb (frac_lt hf)
  have hq : can .f64 4598175219545276416 = some 4598175219545276416 := by decide
  have hqb : Bd .f64 1 (some 4598175219545276416) := by
    rw [← hq]; exact Bd_can (N := 1024) (by decide) (by decide) (by decide) (by decide)
  obtain ⟨u, hu⟩ := sub_some hqb k4
  have hub : Bd .f64 2 (some u) := by rw [← hu]; exact Bd_sub hqb k4 (by decide) (by decide)
  have lv := word_of_Bd (N := 1024) k4 (by decide) (by decide)
  have lu := word_of_Bd (N := 1025) hub (by decide) (by decide)
  rw [bi64] at lv lu
  obtain ⟨_, _, _, _, _, _, _, iu⟩ := trunc_small (y := u) (by omega)
  obtain ⟨_, _, _, _, _, _, _, iv⟩ := trunc_small (y := v) (by omega)
  exact ⟨_, K, v, u, _, _, hi, k1, hf ▸ k2, hf ▸ k3, hf ▸ k5, by rw [hq]; exact hu, iu, iv, by omega, by omega⟩

theorem nan32P (w : World) : Calls Try.prog 165 #[] w fun e w' => e = .returned (.float .f32 2143289344) ∧ w = w' := by
  have h2 := f32frombits
  go_enter Try.func165, Try.ntmps165
  go_wp2
  go_ret
  exact ⟨rfl, rfl⟩

theorem from32P (w : World) : Calls Try.prog 161 #[.int .i64 2143289344] w fun e w' => e = .returned (.float .f32 2143289344) ∧ w = w' := by
  have h2 := f32frombits
  go_enter Try.func161, Try.ntmps161
  go_wp2
  go_ret
  exact ⟨rfl, rfl⟩

theorem implPhaNaN (y : Nat) (hf : finB .f64 y = false) (hw : WF .f64 y) (w : World) : Calls Try.prog 132 #[.float .f64 y] w (CPost none none w) := by
  cases hn : nanW .f64 y with
  | true =>
    have h1 : (FloatKind.f64.format.order y y != some .eq) = true := by rw [self_ne, hn]
    clear hf hn
    go_enter Try.func132, Try.ntmps132
    go_wp2_with (first | (go_at_call 165; refine (nan32P _).mono ?_; rintro e w' ⟨rfl, rfl⟩) | go_in)
    go_ret
    exact cpost (n := 0) (by decide) (by decide)
  | false =>
    have h1 : (FloatKind.f64.format.order y y != some .eq) = false := by rw [self_ne, hn]
    have h2 : infB y = true := by
      have hle : y % FloatKind.f64.format.signWeight ≤ FloatKind.f64.format.infRung := Nat.le_of_not_lt fun hc => by rw [nanW_of_lt hc] at hn; cases hn
      have := of_decide_eq_false hf
      rw [infB_of hle, decide_eq_true (by omega)]
    clear hf hn
    go_enter Try.func132, Try.ntmps132
    go_wp2_with (first | (go_at_call 151; refine (isInf_any _ (by assumption) _).mono ?_; rintro e w' ⟨rfl, hh⟩; obtain rfl := hh.symm; clear hh) | (go_at_call 165; refine (nan32P _).mono ?_; rintro e w' ⟨rfl, rfl⟩) | go_in)
    go_ret
    exact cpost (n := 0) (by decide) (by decide)

theorem specPhaNaN (y : Nat) (hf : finB .f64 y = false) (w : World) : Calls Try.prog 126 #[.float .f64 y] w (CPost none none w) := by
  have Hf := Lib.hid hf
  clear hf
  go_enter Try.func126, Try.ntmps126
  go_wp2_with (first | ((with_reducible refine upon_self_no Hf.out ?_); intro _ _ _ _) | (go_at_call 161; refine (from32P _).mono ?_; rintro e w' ⟨rfl, rfl⟩))
  go_ret
  exact cpost (by decide) (by decide)

theorem big_signed {y : Nat} (hi : y % FloatKind.f64.format.signWeight < FloatKind.f64.format.infRung) (hb : 4841369599423283200 ≤ y % FloatKind.f64.format.signWeight) :
    FloatKind.f64.format.order y 4841369599423283200 = some .gt ∨ FloatKind.f64.format.order y 4841369599423283200 = some .eq ∨ (FloatKind.f64.format.order y 4841369599423283200 = some .lt ∧ (FloatKind.f64.format.order y 14064741636278059008 = some .lt ∨ FloatKind.f64.format.order y 14064741636278059008 = some .eq)) := by
  have hC : sV .f64 4841369599423283200 = V FloatKind.f64.format.binade 4841369599423283200 := sV_pos (by rw [sw64]; decide)
  have hD : sV .f64 14064741636278059008 = -(V FloatKind.f64.format.binade 4841369599423283200 : Int) := by
    unfold sV
    rw [show (14064741636278059008 / FloatKind.f64.format.signWeight % 2 == 1) = true by rw [sw64]; decide, if_pos rfl, show 14064741636278059008 % FloatKind.f64.format.signWeight = 4841369599423283200 by rw [sw64]]
  have hv := V_le (B := FloatKind.f64.format.binade) (Nat.two_pow_pos _) hb
  have hc0 : 0 < V FloatKind.f64.format.binade 4841369599423283200 := by
    have := V_lt (B := FloatKind.f64.format.binade) (Nat.two_pow_pos _) (show 0 < 4841369599423283200 by decide)
    omega
  have e1 := order_sV hi (b := 4841369599423283200) (by rw [sw64, inf64]; decide)
  have e2 := order_sV hi (b := 14064741636278059008) (by rw [sw64, inf64]; decide)
  rw [hC] at e1
  rw [hD] at e2
  rw [e1, e2]
  unfold sV
  generalize V FloatKind.f64.format.binade 4841369599423283200 = c at *
  generalize V FloatKind.f64.format.binade (y % FloatKind.f64.format.signWeight) = v at *
  cases (y / FloatKind.f64.format.signWeight % 2 == 1)
  · simp only [compare, compareOfLessAndEq, Bool.false_eq_true, if_false]
    rcases Nat.lt_or_eq_of_le hv with h | h
    · left; rw [if_neg (by omega), if_neg (by omega)]
    · right; left; rw [if_neg (by omega), if_pos (by omega)]
  · simp only [compare, compareOfLessAndEq, if_true]
    right; right
    rw [if_pos (by omega)]
    refine ⟨rfl, ?_⟩
    rcases Nat.lt_or_eq_of_le hv with h | h
    · left; rw [if_pos (by omega)]
    · right; rw [if_neg (by omega), if_pos (by omega)]

theorem specPhaBig (y : Nat) (hf : finB .f64 y = true) (hb : 4841369599423283200 ≤ y % FloatKind.f64.format.signWeight) (w : World) : Calls Try.prog 126 #[.float .f64 y] w (CPost (some 1065353216) (some 0) w) := by
  have key := big_signed (of_decide_eq_true hf) hb
  have Hf := Lib.hid hf
  clear hf hb
  rcases key with h | h | ⟨h, g⟩
  · go_enter Try.func126, Try.ntmps126
    go_wp2_with ((with_reducible refine upon_self_yes Hf.out ?_); intro _ _ _ _)
    go_ret
    exact cpost (by decide) (by decide)
  · go_enter Try.func126, Try.ntmps126
    go_wp2_with ((with_reducible refine upon_self_yes Hf.out ?_); intro _ _ _ _)
    go_ret
    exact cpost (by decide) (by decide)
  · rcases g with g | g
    · go_enter Try.func126, Try.ntmps126
      go_wp2_with ((with_reducible refine upon_self_yes Hf.out ?_); intro _ _ _ _)
      go_ret
      exact cpost (by decide) (by decide)
    · go_enter Try.func126, Try.ntmps126
      go_wp2_with ((with_reducible refine upon_self_yes Hf.out ?_); intro _ _ _ _)
      go_ret
      exact cpost (by decide) (by decide)

theorem implPhaBig (y : Nat) (hf : finB .f64 y = true) (hw : WF .f64 y) (hb : 4841369599423283200 ≤ y % FloatKind.f64.format.signWeight) (w : World) : Calls Try.prog 132 #[.float .f64 y] w (CPost (some 1065353216) (some 0) w) := by
  have hi : y % FloatKind.f64.format.signWeight < FloatKind.f64.format.infRung := of_decide_eq_true hf
  have hn0 : nanW .f64 y = false := nanW_of_le (Nat.le_of_lt hi)
  have h1 : (FloatKind.f64.format.order y y != some .eq) = false := by rw [self_ne, hn0]
  have h2 : infB y = false := by rw [infB_of (Nat.le_of_lt hi), decide_eq_false (by omega)]
  have hc := big_abs hi
  rw [decide_eq_true hb, Bool.or_eq_true, beq_iff_eq, beq_iff_eq] at hc
  clear hf hb hi hn0
  rcases hc with h | h
  · go_enter Try.func132, Try.ntmps132
    go_wp2_with (first | (go_at_call 151; refine (isInf_any _ (by assumption) _).mono ?_; rintro e w' ⟨rfl, hh⟩; obtain rfl := hh.symm; clear hh) | (go_at_call 166; refine (abs_any _ (by assumption) _).mono ?_; rintro e w' ⟨rfl, hh⟩; obtain rfl := hh.symm; clear hh) | go_in)
    go_ret
    exact cpost (n := 0) (by decide) (by decide)
  · go_enter Try.func132, Try.ntmps132
    go_wp2_with (first | (go_at_call 151; refine (isInf_any _ (by assumption) _).mono ?_; rintro e w' ⟨rfl, hh⟩; obtain rfl := hh.symm; clear hh) | (go_at_call 166; refine (abs_any _ (by assumption) _).mono ?_; rintro e w' ⟨rfl, hh⟩; obtain rfl := hh.symm; clear hh) | go_in)
    go_ret
    exact cpost (n := 0) (by decide) (by decide)

/-- both answer alike -/
theorem pha_both (y : Nat) (hw : WF .f64 y) : ∃ c d, (∀ w, Calls Try.prog 126 #[.float .f64 y] w (CPost c d w)) ∧ (∀ w, Calls Try.prog 132 #[.float .f64 y] w (CPost c d w)) := by
  cases hf : finB .f64 y with
  | false => exact ⟨none, none, specPhaNaN y hf, implPhaNaN y hf hw⟩
  | true =>
    by_cases hb : y % FloatKind.f64.format.signWeight < 4841369599423283200
    · obtain ⟨n, K, v, u, nu, nv, hk⟩ := known_of hb
      exact ⟨_, _, specPha y n K v u nu nv hk hb, implPha y n K v u nu nv hk hw hb⟩
    · exact ⟨_, _, specPhaBig y hf (by omega), implPhaBig y hf hw (by omega)⟩

theorem widc_eq {a b r s : Nat} {c : Option Nat} (h1 : Hid (can .f64 r = wid (can .f32 a))) (h2 : Hid (can .f64 s = wid (can .f32 b))) (h3 : Hid (can .f32 a = c)) (h4 : Hid (can .f32 b = c)) : can .f64 r = can .f64 s := by rw [h1.out, h2.out, h3.out, h4.out]

/-- two complex numbers that are the same but for the bits of not-a-numbers -/
theorem sameC (a b c d : Nat) (h1 : can .f64 a = can .f64 c) (h2 : can .f64 b = can .f64 d) (w : World) :
    Calls Try.prog 87 #[.complex .f64 a b, .complex .f64 c d] w fun e w' => e = .returned (.bool true) ∧ ∃ n, w' = w.drewN n := by
  have H1 := Lib.hid h1
  have H2 := Lib.hid h2
  clear h1 h2
  go_enter Try.func87, Try.ntmps87
  go_wp2_with (first | (go_at_call 27; ((with_reducible refine (sameFloat_any a c H1.out _).mono ?_); rintro e w' ⟨rfl, n, rfl⟩)) | (go_at_call 27; ((with_reducible refine (sameFloat_any b d H2.out _).mono ?_); rintro e w' ⟨rfl, n, rfl⟩)))
  go_ret
  exact ⟨rfl, _, rfl⟩


end Go.Proofs.Ythhimielelpcoaa
