/-
  What is proved here: the law SineTurns as a walk, whatever is drawn; what is behind the point of a number is at most 1, and its sine's series at most 2 ^ 110. Conditions: words fit their kinds.
-/
import Derived.Test.YthhimielelpcoaaSin
namespace Go.Proofs.Ythhimielelpcoaa
namespace Flt
open Ieee

theorem Gd_word {w : Nat} (h1 : 1023 * FloatKind.f64.format.binade ≤ w % FloatKind.f64.format.signWeight) (h2 : w % FloatKind.f64.format.signWeight < FloatKind.f64.format.infRung) : Gd .f64 0 (some w) := by
  intro v hv
  cases hv
  have hbp : 0 < FloatKind.f64.format.binade := Nat.two_pow_pos _
  obtain ⟨m, d, hr, hv⟩ := read_V h2
  have h3 := V_le hbp h1
  obtain ⟨t, ht⟩ : ∃ t : Nat, t = 1022 := ⟨_, rfl⟩
  rw [V_mul hbp 1023 (by decide), ← hv, show (1023 - 1 : Nat) = t from ht.symm] at h3
  have hl : FloatKind.f64.format.leastPlace = -1074 := by decide
  refine ⟨_, m, _, hr, 1074, by rw [hl]; omega, by omega, ?_⟩
  rw [hl, show ((-1074 : Int) + (d : Int) + ((1074 : Nat) : Int)).toNat = d by omega]
  refine Nat.le_trans ?_ h3
  rw [bi64, show ((0 : Int) + ((1074 : Nat) : Int)).toNat = 52 + t by omega, Nat.pow_add]
  exact Nat.mul_le_mul_right _ (Nat.le_of_eq rfl)

theorem Bd_word64 {w N : Nat} (h : w % FloatKind.f64.format.signWeight ≤ N * FloatKind.f64.format.binade) (hN : 1 ≤ N) (hN2 : N ≤ 2046) : Bd .f64 ((N : Int) - 1023) (some w) := by
  intro v hv
  cases hv
  exact Bd_word h (by rw [fb64]; omega) hN (by rw [bi64, inf64]; omega) (by decide)

theorem Bd_can {w N : Nat} {E : Int} (h : w ≤ N * 4503599627370496) (hN : 1 ≤ N) (hN2 : N ≤ 2046) (hE : (N : Int) - 1023 = E) : Bd .f64 E (can .f64 w) := by
  have hs : w < FloatKind.f64.format.signWeight := by rw [sw64]; omega
  have hw : w % FloatKind.f64.format.signWeight = w := Nat.mod_eq_of_lt hs
  rw [can_num (nanW_of_le (by rw [hw, inf64]; omega)), ← hE]
  exact Bd_word64 (by rw [hw, bi64]; exact h) hN hN2

/-- 'int64(x)' of a number less than 2 ^ 52 -/
theorem trunc_small {y : Nat} (h : y % FloatKind.f64.format.signWeight < 4841369599423283200) :
    ∃ (s : Bool) (m k : Nat), FloatKind.f64.format.read y = .number s m (-(k : Int)) ∧ 1 ≤ k ∧ k ≤ 1074 ∧ m < 9007199254740992 ∧ floatToIntVal .f64 y .i64 = some (signed s (m / 2 ^ k) 0) := by
  obtain ⟨m, e, hr, _⟩ := read_number (k := .f64) (w := y) (by rw [inf64]; omega)
  have hl : FloatKind.f64.format.leastPlace = -1074 := by decide
  have hbp : 0 < FloatKind.f64.format.binade := Nat.two_pow_pos _
  have hme : m < 9007199254740992 ∧ -1074 ≤ e ∧ e ≤ -1 := by
    have hr2 := hr
    unfold Format.read at hr2
    dsimp only at hr2
    rw [hl, bi64, inf64] at hr2
    split at hr2
    · injection hr2 with _ e1 e2; omega
    · split at hr2
      · injection hr2 with _ e1 e2
        have := Nat.mod_lt (y % FloatKind.f64.format.signWeight) (show 0 < 4503599627370496 by decide)
        omega
      · split at hr2 <;> cases hr2
  obtain ⟨h1, h2, h3⟩ := hme
  obtain ⟨k, rfl⟩ : ∃ k : Nat, e = -(k : Int) := ⟨(-e).toNat, by omega⟩
  refine ⟨_, m, k, hr, by omega, by omega, h1, ?_⟩
  have hcut : ∀ s : Bool, Toward.zero.cut s (m <<< (-(k : Int)).toNat) (- -(k : Int)).toNat = m / 2 ^ k := by
    intro s
    rw [show (-(k : Int)).toNat = 0 by omega, show (- -(k : Int)).toNat = k by omega, Nat.shiftLeft_zero]
    unfold Toward.cut
    dsimp only
    rw [Nat.shiftLeft_eq, Nat.one_mul]
    show m / 2 ^ min k (m.log2 + 2) + 0 = _
    rw [Nat.add_zero]
    by_cases hk : k ≤ m.log2 + 2
    · rw [Nat.min_eq_left hk]
    · rw [Nat.min_eq_right (by omega)]
      have hm : m < 2 ^ (m.log2 + 1) := Nat.lt_log2_self
      rw [Nat.div_eq_of_lt (Nat.lt_of_lt_of_le hm (Nat.pow_le_pow_right (by decide) (by omega))), Nat.div_eq_of_lt (Nat.lt_of_lt_of_le hm (Nat.pow_le_pow_right (by decide) (by omega)))]
  have hq : m / 2 ^ k ≤ m := Nat.div_le_self _ _
  unfold floatToIntVal
  have hd : FloatKind.f64.decode y = .number (y / FloatKind.f64.format.signWeight % 2 == 1) m (-(k : Int)) := hr
  rw [hd]
  generalize (y / FloatKind.f64.format.signWeight % 2 == 1) = s at *
  have hto : (Datum.number s m (-(k : Int))).toInt .zero = some (signed s (m / 2 ^ k) 0) := by
    unfold Datum.toInt Datum.integral
    dsimp only
    rw [hcut]
  rw [hto]
  dsimp only
  rw [if_pos]
  have hb : (signed s (m / 2 ^ k) 0).natAbs = m / 2 ^ k := by rw [signed_abs]; simp
  show (-9223372036854775808 : Int) ≤ _ ∧ _ ≤ (9223372036854775807 : Int)
  omega

/-- WHAT IS BEHIND THE POINT IS AT MOST 1 -/
theorem Bd_frac {y : Nat} (h : y % FloatKind.f64.format.signWeight < 4841369599423283200) : Bd .f64 0 (fop .sub .f64 (can .f64 y) (can .f64 (floatOfInt .f64 ((floatToIntVal .f64 y .i64).getD 0)))) := by
  obtain ⟨s, m, k, hr, hk1, hk2, hm, hi⟩ := trunc_small h
  rw [hi]
  generalize hq : m / 2 ^ k = q at *
  have hqm : q ≤ m := by rw [← hq]; exact Nat.div_le_self _ _
  have hl : FloatKind.f64.format.leastPlace = -1074 := by decide
  have hfb : FloatKind.f64.format.fractionBits = 52 := by decide
  have heb : 2 ^ FloatKind.f64.format.exponentBits - 1 = 2047 := by decide
  intro v hv
  obtain ⟨a, b, ha, hb, hf⟩ := fop_some hv
  obtain ⟨_, rfl⟩ := can_eq_some ha
  obtain ⟨_, hb⟩ := can_eq_some hb
  have habs : (signed s q 0).natAbs = q := by rw [signed_abs]; simp
  have hfl : floatOfInt .f64 (signed s q 0) = FloatKind.f64.format.nearest (decide (signed s q 0 < 0)) q 0 := by
    show FloatKind.f64.format.nearest (decide (signed s q 0 < 0)) (signed s q 0).natAbs 0 = _
    rw [habs]
  have hlog : q = 0 ∨ q.log2 ≤ 52 := by
    by_cases h0 : q = 0
    · exact .inl h0
    · right
      have : q.log2 < 53 := (Nat.log2_lt h0).2 (by rw [show (2 : Nat) ^ 53 = 9007199254740992 from rfl]; omega)
      omega
  obtain ⟨T, hT⟩ : ∃ T : Nat, T = 1074 := ⟨_, rfl⟩
  have hov : q = 0 ∨ (T : Int) + (q.log2 : Int) + 2 ≤ (52 : Nat) + (2047 : Nat) := by
    rcases hlog with h0 | h0
    · exact .inl h0
    · right; omega
  obtain ⟨g1, g2⟩ := nearest_exact .f64 (decide (signed s q 0 < 0)) q 0 (by rw [hfb]; exact hlog) T (by rw [hl]; omega) (by rw [hfb, heb]; exact hov)
  have g3 := nearest_sign .f64 (decide (signed s q 0 < 0)) q 0
  have hb : floatOfInt .f64 (signed s q 0) = b := hb
  rw [← hfl, hb] at g1 g2 g3
  obtain ⟨m', d', hr', hv'⟩ := read_V g2
  rw [g1] at hv'
  rw [g3] at hr'
  have hf : ((FloatKind.f64.format.read y).sum (FloatKind.f64.format.read b).opposite).map FloatKind.f64.format.write = some v := hf
  rw [hr, hr'] at hf
  simp only [Datum.opposite, Datum.sum, Option.map_some, Option.some.injEq] at hf
  rw [← hf]
  refine nearest_Bd ?_ (by decide) (by decide)
  rw [hl]
  refine ⟨T, by omega, by omega, ?_⟩
  obtain ⟨b0, hb0⟩ : ∃ b0 : Nat, min (-(k : Int)) (-1074 + (d' : Int)) = (b0 : Int) - T := ⟨(min (-(k : Int)) (-1074 + (d' : Int)) + T).toNat, by omega⟩
  rw [hb0]
  have u1 : (-(k : Int) - ((b0 : Int) - T)).toNat = T - k - b0 := by omega
  have u2 : (-1074 + (d' : Int) - ((b0 : Int) - T)).toNat = d' - b0 := by omega
  have u3 : ((b0 : Int) - T + (T : Int)).toNat = b0 := by omega
  have u4 : ((0 : Int) + (T : Int)).toNat = T := by omega
  have k1 : b0 ≤ T - k := by omega
  have k2 : b0 ≤ d' := by omega
  have hkT : k ≤ T := by omega
  rw [u1, u2, u3, u4]
  clear hf hr hr' hb hfl g1 g2 g3 hv ha hi hl hfb heb u1 u2 u3 u4 hb0 hT
  have hA : (m <<< (T - k - b0)) * 2 ^ b0 = m * 2 ^ (T - k) := by
    rw [Nat.shiftLeft_eq, Nat.mul_assoc, ← Nat.pow_add]; congr 2; omega
  have hB : (m' <<< (d' - b0)) * 2 ^ b0 = q * 2 ^ k * 2 ^ (T - k) := by
    rw [Nat.shiftLeft_eq, Nat.mul_assoc, ← Nat.pow_add, show d' - b0 + b0 = d' by omega, hv', Nat.mul_assoc, ← Nat.pow_add]; congr 2; omega
  unfold signed
  generalize m <<< (T - k - b0) = A at *
  generalize m' <<< (d' - b0) = C at *
  have hqk : q * 2 ^ k ≤ m := by rw [← hq]; exact Nat.div_mul_le_self _ _
  have hmk : m < q * 2 ^ k + 2 ^ k := by
    have := Nat.div_add_mod m (2 ^ k)
    have h2 := Nat.mod_lt m (Nat.two_pow_pos k)
    rw [hq, Nat.mul_comm] at this
    omega
  have hCA : C ≤ A := by
    refine Nat.le_of_mul_le_mul_right ?_ (Nat.two_pow_pos b0)
    rw [hA, hB]; exact Nat.mul_le_mul_right _ hqk
  have hC0 : q = 0 → C = 0 := by
    rintro rfl
    rw [Nat.zero_mul, Nat.zero_mul] at hB
    rcases Nat.mul_eq_zero.1 hB with h | h
    · exact h
    · have := Nat.two_pow_pos b0; omega
  have htot : ((if s = true then -(A : Int) else (A : Int)) + if (!decide ((if s = true then -((q <<< 0 : Nat) : Int) else ((q <<< 0 : Nat) : Int)) < 0)) = true then -(C : Int) else (C : Int)).natAbs = A - C := by
    rw [Nat.shiftLeft_zero]
    cases s
    · have : decide ((q : Int) < 0) = false := decide_eq_false (by omega)
      simp [this] <;> omega
    · by_cases h0 : q = 0
      · rw [hC0 h0]; simp
      · simp <;> omega
  rw [htot, Nat.sub_mul, hA, hB, ← Nat.sub_mul]
  calc (m - q * 2 ^ k) * 2 ^ (T - k) ≤ 2 ^ k * 2 ^ (T - k) := Nat.mul_le_mul_right _ (by omega)
    _ = 2 ^ T := by rw [← Nat.pow_add]; congr 1; omega

theorem Bd_one : Bd .f64 0 (can .f64 4607182418800017408) := Bd_can (N := 1023) (by decide) (by decide) (by decide) (by decide)
theorem Bd_half : Bd .f64 0 (can .f64 4602678819172646912) := Bd_can (N := 1023) (by decide) (by decide) (by decide) (by decide)
theorem Bd_tau : Bd .f64 3 (can .f64 4618760256179416344) := Bd_can (N := 1026) (by decide) (by decide) (by decide) (by decide)

theorem Bd_ite {c : Prop} [Decidable c] {a b : Option Nat} {E : Int} (ha : Bd .f64 E a) (hb : Bd .f64 E b) : Bd .f64 E (if c then a else b) := by split <;> assumption

end Flt
open Flt Go.RowKit

theorem Bd_fracF {y : Nat} (h : y % FloatKind.f64.format.signWeight < 4841369599423283200) : Bd .f64 1 (fracF y) := by
  have h0 : Bd .f64 0 (fop .sub .f64 (can .f64 y) (can .f64 (floatOfInt .f64 (trI y)))) := Bd_frac h
  unfold fracF
  exact Bd_ite (Bd_add h0 Bd_one (by decide) (by decide)) (h0.mono (by decide))

theorem Bd_foldF {a : Option Nat} (h : Bd .f64 1 a) : Bd .f64 3 (foldF a) := by
  have h1 : Bd .f64 2 (if geB a (can .f64 4602678819172646912) = true then fop .sub .f64 a (can .f64 4602678819172646912) else a) := Bd_ite (Bd_sub h (Bd_half.mono (by decide)) (by decide) (by decide)) (h.mono (by decide))
  unfold foldF
  exact Bd_ite (Bd_sub (Bd_half.mono (by decide)) h1 (by decide) (by decide)) (h1.mono (by decide))

theorem Gd_turn {j : Nat} (hj : j < 8) : Gd .f64 0 (can .f64 (floatOfInt .f64 (wrap64 (2 * ((8 - j : Nat) : Int) * (2 * ((8 - j : Nat) : Int) + 1))))) := by
  have key : ∀ j : Fin 8, (nanW .f64 (floatOfInt .f64 (wrap64 (2 * ((8 - j.val : Nat) : Int) * (2 * ((8 - j.val : Nat) : Int) + 1)))) = false ∧
      1023 * FloatKind.f64.format.binade ≤ floatOfInt .f64 (wrap64 (2 * ((8 - j.val : Nat) : Int) * (2 * ((8 - j.val : Nat) : Int) + 1))) % FloatKind.f64.format.signWeight ∧
      floatOfInt .f64 (wrap64 (2 * ((8 - j.val : Nat) : Int) * (2 * ((8 - j.val : Nat) : Int) + 1))) % FloatKind.f64.format.signWeight < FloatKind.f64.format.infRung) := by decide +kernel
  obtain ⟨k1, k2, k3⟩ := key ⟨j, hj⟩
  rw [can_num k1]
  exact Gd_word k2 k3

theorem Bd_polyS {u : Option Nat} (hu : Bd .f64 12 u) : ∀ j : Nat, j ≤ 8 → Bd .f64 (13 * j) (polyS u j) := by
  intro j
  induction j with
  | zero => intro _; exact Bd_one
  | succ j ih =>
    intro hj
    have h1 := Bd_mul hu (ih (by omega)) (by omega) (by omega)
    have h2 := Bd_quo h1 (Gd_turn (j := j) (by omega)) (by omega) (by omega)
    have h3 := Bd_sub (E := 12 + 13 * (j : Int)) (Bd_one.mono (by omega)) (h2.mono (by omega)) (by omega) (by omega)
    refine h3.mono ?_
    omega

theorem Bd_sineF {a : Option Nat} (h : Bd .f64 1 a) : Bd .f64 110 (sineF a) := by
  have hz := Bd_mul (Bd_foldF h) Bd_tau (by decide) (by decide)
  have hu := Bd_mul hz hz (by decide) (by decide)
  have hp := Bd_polyS hu 8 (by decide)
  have hv := Bd_mul hz hp (by decide) (by decide)
  unfold sineF
  exact Bd_ite (Bd_neg hv) hv

theorem ok_sine {y : Nat} (h : y % FloatKind.f64.format.signWeight < 4841369599423283200) : okNar (sineF (fracF y)) := okNar_of_Bd (Bd_sineF (Bd_fracF h)) (by decide)

/-- 'not less than 2 ^ 52', by its bits -/
theorem big_abs {y : Nat} (h : y % FloatKind.f64.format.signWeight < FloatKind.f64.format.infRung) :
    (FloatKind.f64.format.order (absW y) 4841369599423283200 == some .gt || FloatKind.f64.format.order (absW y) 4841369599423283200 == some .eq) = decide (4841369599423283200 ≤ y % FloatKind.f64.format.signWeight) := by
  have e : absW y = y % FloatKind.f64.format.signWeight := by rw [sw64]; rfl
  rw [e, order_pos (Nat.le_of_lt h) (by rw [inf64]; decide)]
  simp only [compare, compareOfLessAndEq]
  rcases Nat.lt_trichotomy (y % FloatKind.f64.format.signWeight) 4841369599423283200 with h1 | h1 | h1
  · rw [if_pos h1, decide_eq_false (by omega)]; rfl
  · rw [h1]; decide
  · rw [if_neg (by omega), if_neg (by omega), decide_eq_true (by omega)]; rfl

theorem small_signed {y : Nat} (h : y % FloatKind.f64.format.signWeight < 4841369599423283200) :
    (FloatKind.f64.format.order y 4841369599423283200 == some .gt) = false ∧ (FloatKind.f64.format.order y 4841369599423283200 == some .eq) = false ∧
    (FloatKind.f64.format.order y 14064741636278059008 == some .lt) = false ∧ (FloatKind.f64.format.order y 14064741636278059008 == some .eq) = false := by
  have hi : y % FloatKind.f64.format.signWeight < FloatKind.f64.format.infRung := by rw [inf64]; omega
  have hC : sV .f64 4841369599423283200 = V FloatKind.f64.format.binade 4841369599423283200 := sV_pos (by rw [sw64]; decide)
  have hD : sV .f64 14064741636278059008 = -(V FloatKind.f64.format.binade 4841369599423283200 : Int) := by
    unfold sV
    rw [show (14064741636278059008 / FloatKind.f64.format.signWeight % 2 == 1) = true by rw [sw64]; decide, if_pos rfl, show 14064741636278059008 % FloatKind.f64.format.signWeight = 4841369599423283200 by rw [sw64]]
  have hv := V_lt (B := FloatKind.f64.format.binade) (Nat.two_pow_pos _) h
  rw [order_sV hi (by rw [sw64, inf64]; decide), order_sV hi (by rw [sw64, inf64]; decide), hC, hD]
  unfold sV
  generalize V FloatKind.f64.format.binade 4841369599423283200 = c at *
  generalize V FloatKind.f64.format.binade (y % FloatKind.f64.format.signWeight) = v at *
  cases (y / FloatKind.f64.format.signWeight % 2 == 1)
  · simp only [compare, compareOfLessAndEq, Bool.false_eq_true, if_false]
    rw [if_pos (by omega), if_neg (by omega), if_neg (by omega)]
    decide
  · simp only [compare, compareOfLessAndEq, if_true]
    rw [if_pos (by omega), if_neg (by omega), if_neg (by omega)]
    decide

/-- the sine of a widened number: its tests -/
def sinV (x : Nat) : Option Nat :=
  match wid (can .f32 x) with
  | none => none
  | some y => if finB .f64 y = true then (if y % 9223372036854775808 < 4841369599423283200 then nar (sineF (fracF y)) else some 0) else none

theorem upon_self_no {P : Program} {o : Oper} {a : Act} {K : Act → World → Prop} {Q : Exit → Act → World → Prop} {t : TypeId} {k : FloatKind} {x : Nat} {w : World} {f : Value → World → Result Next} (hf : finB k x = false)
    (h : ∀ r n, WF k r → (k.format.order r 0 != some .eq) = true → Oper.upon P o a K Q (f (.float k r) (w.drewN n))) :
    Oper.upon P o a K Q ((Sem.run P (binOp .sub t (.float k x) (.float k x)) w).andThen f) := by
  refine upon_bin rfl ?_
  intro r n hw hc
  refine h r n hw ?_
  rw [bne, fin_sub hc.out, hf]; rfl
theorem upon_self_yes {P : Program} {o : Oper} {a : Act} {K : Act → World → Prop} {Q : Exit → Act → World → Prop} {t : TypeId} {k : FloatKind} {x : Nat} {w : World} {f : Value → World → Result Next} (hf : finB k x = true)
    (h : ∀ r n, WF k r → (k.format.order r 0 != some .eq) = false → Oper.upon P o a K Q (f (.float k r) (w.drewN n))) :
    Oper.upon P o a K Q ((Sem.run P (binOp .sub t (.float k x) (.float k x)) w).andThen f) := by
  refine upon_bin rfl ?_
  intro r n hw hc
  refine h r n hw ?_
  rw [bne, fin_sub hc.out, hf]; rfl

theorem specSineNaN (y : Nat) (hf : finB .f64 y = false) (w : World) : Calls Try.prog 162 #[.float .f64 y] w (FPost .f64 none w) := by
  have Hf := Lib.hid hf
  clear hf
  go_enter Try.func162, Try.ntmps162
  go_wp2_with (first | ((with_reducible refine upon_self_no Hf.out ?_); intro _ _ _ _) | (go_at_call 149; refine (nan_any _).mono ?_; rintro e w' ⟨rfl, rfl⟩))
  go_ret
  exact fpost (by decide) ⟨by decide⟩

theorem specSineBig (y : Nat) (hf : finB .f64 y = true) (hb : 4841369599423283200 ≤ y % FloatKind.f64.format.signWeight) (w : World) : Calls Try.prog 162 #[.float .f64 y] w (FPost .f64 (can .f64 0) w) := by
  have hi : y % FloatKind.f64.format.signWeight < FloatKind.f64.format.infRung := of_decide_eq_true hf
  have hC : sV .f64 4841369599423283200 = V FloatKind.f64.format.binade 4841369599423283200 := sV_pos (by rw [sw64]; decide)
  have hD : sV .f64 14064741636278059008 = -(V FloatKind.f64.format.binade 4841369599423283200 : Int) := by
    unfold sV
    rw [show (14064741636278059008 / FloatKind.f64.format.signWeight % 2 == 1) = true by rw [sw64]; decide, if_pos rfl, show 14064741636278059008 % FloatKind.f64.format.signWeight = 4841369599423283200 by rw [sw64]]
  have hv := V_le (B := FloatKind.f64.format.binade) (Nat.two_pow_pos _) hb
  have hc0 : 0 < V FloatKind.f64.format.binade 4841369599423283200 := by
    have := V_lt (B := FloatKind.f64.format.binade) (Nat.two_pow_pos _) (show 0 < 4841369599423283200 by decide)
    omega
  have e1 := order_sV hi (b := 4841369599423283200) (by rw [sw64, inf64]; decide)
  have e2 := order_sV hi (b := 14064741636278059008) (by rw [sw64, inf64]; decide)
  rw [hC] at e1
  rw [hD] at e2
  have key : FloatKind.f64.format.order y 4841369599423283200 = some .gt ∨ FloatKind.f64.format.order y 4841369599423283200 = some .eq ∨ (FloatKind.f64.format.order y 4841369599423283200 = some .lt ∧ (FloatKind.f64.format.order y 14064741636278059008 = some .lt ∨ FloatKind.f64.format.order y 14064741636278059008 = some .eq)) := by
    rw [e1, e2]
    unfold sV
    generalize V FloatKind.f64.format.binade 4841369599423283200 = c at *
    generalize V FloatKind.f64.format.binade (y % FloatKind.f64.format.signWeight) = v at *
    cases (y / FloatKind.f64.format.signWeight % 2 == 1)
    · simp only [compare, compareOfLessAndEq, Bool.false_eq_true, if_false]
      rcases Nat.lt_or_eq_of_le hv with h | h
      · left; rw [if_neg (by omega), if_neg (by omega)]
      · right; left; rw [if_neg (by omega), if_pos (by omega)]
    · simp only [compare, compareOfLessAndEq, if_true]
      right; right
      rw [if_pos (by omega)]
      refine ⟨rfl, ?_⟩
      rcases Nat.lt_or_eq_of_le hv with h | h
      · left; rw [if_pos (by omega)]
      · right; rw [if_neg (by omega), if_pos (by omega)]
  have Hf := Lib.hid hf
  clear hf hi hC hD hv hc0 e1 e2 hb
  rcases key with h | h | ⟨h, g⟩
  · go_enter Try.func162, Try.ntmps162
    go_wp2_with ((with_reducible refine upon_self_yes Hf.out ?_); intro _ _ _ _)
    go_ret
    exact fpost rfl ⟨by decide⟩
  · go_enter Try.func162, Try.ntmps162
    go_wp2_with ((with_reducible refine upon_self_yes Hf.out ?_); intro _ _ _ _)
    go_ret
    exact fpost rfl ⟨by decide⟩
  · rcases g with g | g
    · go_enter Try.func162, Try.ntmps162
      go_wp2_with ((with_reducible refine upon_self_yes Hf.out ?_); intro _ _ _ _)
      go_ret
      exact fpost rfl ⟨by decide⟩
    · go_enter Try.func162, Try.ntmps162
      go_wp2_with ((with_reducible refine upon_self_yes Hf.out ?_); intro _ _ _ _)
      go_ret
      exact fpost rfl ⟨by decide⟩

theorem ok_const {r : Nat} (h : RowKit.Hid (can .f64 r = can .f64 0)) : okNar (can .f64 r) := by
  rw [h.out]
  intro v hv
  rw [show can .f64 0 = some 0 by decide] at hv
  cases hv
  exact ⟨0, by decide⟩

end Go.Proofs.Ythhimielelpcoaa
