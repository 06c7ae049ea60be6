/-
  What is proved here: the law LogNumber as a walk, whatever is drawn; the logarithm is at most 2 ^ 12. Conditions: words fit their kinds.
-/
import Derived.Test.YthhimielelpcoaaLog
import Derived.Test.YthhimielelpcoaaSinC
namespace Go.Proofs.Ythhimielelpcoaa
namespace Flt
open Ieee

theorem sum_V {x y : Nat} (hx : x % FloatKind.f64.format.signWeight < FloatKind.f64.format.infRung) (hy : y % FloatKind.f64.format.signWeight < FloatKind.f64.format.infRung) :
    ∃ tot base : Int, ∃ s : Bool, ∃ c : Nat, ((FloatKind.f64.format.read x).sum (FloatKind.f64.format.read y)) = some (.number s tot.natAbs (-1074 + c)) ∧ tot * (2 ^ c : Nat) = sV .f64 x + sV .f64 y ∧ base = 0 := by
  obtain ⟨m, d, hr, hv⟩ := read_V hx
  obtain ⟨n, e, hs, hw⟩ := read_V hy
  have hl : FloatKind.f64.format.leastPlace = -1074 := by decide
  rw [hl] at hr hs
  rw [hr, hs]
  unfold Datum.sum
  dsimp only
  have hm : min ((-1074 : Int) + (d : Int)) (-1074 + (e : Int)) = -1074 + (min d e : Nat) := by omega
  rw [hm, show ((-1074 : Int) + (d : Int) - (-1074 + (min d e : Nat))).toNat = d - min d e by omega, show ((-1074 : Int) + (e : Int) - (-1074 + (min d e : Nat))).toNat = e - min d e by omega]
  refine ⟨_, 0, _, min d e, rfl, ?_, rfl⟩
  rw [Int.add_mul, signed_V _ _ _ _ (Nat.min_le_left ..), signed_V _ _ _ _ (Nat.min_le_right ..), hv, hw]
  rfl

theorem sum_LeP {tot : Int} {c : Nat} {W : Int} {E : Int} (T : Nat) (h : tot * (2 ^ c : Nat) = W) (hT : (T : Int) = E + 1074) (hW : W.natAbs ≤ 2 ^ T) : LeP tot.natAbs (-1074 + c) E := by
  refine ⟨1074, by omega, by omega, ?_⟩
  rw [show ((-1074 : Int) + (c : Int) + ((1074 : Nat) : Int)).toNat = c by omega, show (E + ((1074 : Nat) : Int)).toNat = T by omega]
  rw [← h, Int.natAbs_mul, Int.natAbs_natCast] at hW
  exact hW

theorem sum_GeP {tot : Int} {c : Nat} {W : Int} {F : Int} (T : Nat) (h : tot * (2 ^ c : Nat) = W) (hT : (T : Int) = F + 1074) (hW : 2 ^ T ≤ W.natAbs) : GeP tot.natAbs (-1074 + c) F := by
  refine ⟨1074, by omega, by omega, ?_⟩
  rw [show ((-1074 : Int) + (c : Int) + ((1074 : Nat) : Int)).toNat = c by omega, show (F + ((1074 : Nat) : Int)).toNat = T by omega]
  rw [← h, Int.natAbs_mul, Int.natAbs_natCast] at hW
  exact hW

/-- the values at 0.75, 1 and 1.5 -/
theorem V_marks (t : Nat) (ht : t = 1021) : V FloatKind.f64.format.binade 4604930618986332160 = 3 * 2 ^ 51 * 2 ^ t ∧ V FloatKind.f64.format.binade 4607182418800017408 = 4 * 2 ^ 51 * 2 ^ t ∧ V FloatKind.f64.format.binade 4609434218613702656 = 6 * 2 ^ 51 * 2 ^ t := by
  have e : ∀ a : Nat, a * 2 ^ (t + 1) = 2 * a * 2 ^ t := by intro a; rw [Nat.pow_succ]; rw [Nat.mul_comm (2 ^ t) 2, ← Nat.mul_assoc, Nat.mul_comm a 2]
  refine ⟨?_, ?_, ?_⟩
  · rw [V_norm (by decide), show 4604930618986332160 / 4503599627370496 - 1 = t by rw [ht]]
  · rw [V_norm (by decide), show 4607182418800017408 / 4503599627370496 - 1 = t + 1 by rw [ht], e]
  · rw [V_norm (by decide), show 4609434218613702656 / 4503599627370496 - 1 = t + 1 by rw [ht], e]

theorem sV_one : sV .f64 4607182418800017408 = V FloatKind.f64.format.binade 4607182418800017408 := sV_pos (by rw [sw64]; decide)
theorem sub_opp (y : Nat) (h : y % FloatKind.f64.format.signWeight < FloatKind.f64.format.infRung) (hs : y < FloatKind.f64.format.signWeight) : (FloatKind.f64.format.read y).opposite = FloatKind.f64.format.read (y + FloatKind.f64.format.signWeight) := by
  have hp : 0 < FloatKind.f64.format.signWeight := by rw [sw64]; decide
  unfold Format.read
  dsimp only
  rw [Nat.add_mod_right, Nat.add_div_right _ hp, Nat.div_eq_of_lt hs]
  split
  · rfl
  · rfl

theorem pows (t : Nat) : 2 ^ 51 * 2 ^ t = 2 ^ (t + 51) ∧ 2 ^ (t + 52) = 2 * 2 ^ (t + 51) ∧ 2 ^ (t + 53) = 4 * 2 ^ (t + 51) := by
  refine ⟨by rw [← Nat.pow_add, Nat.add_comm], by rw [← Nat.pow_succ'], ?_⟩
  rw [show t + 53 = (t + 51) + 2 by omega, Nat.pow_add, Nat.mul_comm]

/-- what lies from 0.75 to 1.5 is at most 1 / 2 apart from 1, and with it at least 1 -/
theorem near_one {x : Nat} (h1 : 4604930618986332160 ≤ x) (h2 : x < 4609434218613702656) :
    Bd .f64 (-1) (fop .sub .f64 (can .f64 x) (can .f64 4607182418800017408)) ∧ Gd .f64 0 (fop .add .f64 (can .f64 x) (can .f64 4607182418800017408)) := by
  have hxs : x < FloatKind.f64.format.signWeight := by rw [sw64]; omega
  have hxi : x % FloatKind.f64.format.signWeight < FloatKind.f64.format.infRung := by rw [Nat.mod_eq_of_lt hxs, inf64]; omega
  have hos : 4607182418800017408 < FloatKind.f64.format.signWeight := by rw [sw64]; decide
  have hoi : 4607182418800017408 % FloatKind.f64.format.signWeight < FloatKind.f64.format.infRung := by rw [Nat.mod_eq_of_lt hos, inf64]; decide
  obtain ⟨t, ht⟩ : ∃ t : Nat, t = 1021 := ⟨_, rfl⟩
  obtain ⟨v1, v2, v3⟩ := V_marks t ht
  have ht1 : (t : Int) + 53 = 1074 := by omega
  clear ht
  have w1 := V_le (B := FloatKind.f64.format.binade) (Nat.two_pow_pos _) h1
  have w2 := V_lt (B := FloatKind.f64.format.binade) (Nat.two_pow_pos _) h2
  have hsx : sV .f64 x = V FloatKind.f64.format.binade x := sV_pos hxs
  rw [v1] at w1
  rw [v3] at w2
  obtain ⟨q, q2, q3⟩ := pows t
  rw [Nat.mul_assoc, q] at w1 w2 v2
  constructor
  · intro v hv
    obtain ⟨a, b, ha, hb, hf⟩ := fop_some hv
    obtain ⟨_, rfl⟩ := can_eq_some ha
    obtain ⟨_, rfl⟩ := can_eq_some hb
    have hf : ((FloatKind.f64.format.read x).sum (FloatKind.f64.format.read 4607182418800017408).opposite).map FloatKind.f64.format.write = some v := hf
    rw [sub_opp _ hoi hos] at hf
    obtain ⟨tot, _, s, c, h3, h4, _⟩ := sum_V (y := 4607182418800017408 + FloatKind.f64.format.signWeight) hxi (by rw [Nat.add_mod_right]; exact hoi)
    rw [h3] at hf
    have hf := Option.some.inj hf
    rw [← hf]
    refine nearest_Bd (sum_LeP (t + 52) h4 (by omega) ?_) (by decide) (by decide)
    have hneg : sV .f64 (4607182418800017408 + FloatKind.f64.format.signWeight) = -(V FloatKind.f64.format.binade 4607182418800017408 : Int) := by
      unfold sV
      rw [Nat.add_mod_right, Nat.add_div_right _ (by rw [sw64]; decide), Nat.div_eq_of_lt hos, Nat.mod_eq_of_lt hos]
      rfl
    rw [hneg, hsx, v2, q2]
    generalize 2 ^ (t + 51) = P at w1 w2 v2 ⊢
    omega
  · have hbd : Bd .f64 2 (fop .add .f64 (can .f64 x) (can .f64 4607182418800017408)) := Bd_add (E := 1) (Bd_can (N := 1024) (by omega) (by decide) (by decide) (by decide)) (Bd_one.mono (by decide)) (by decide) (by decide)
    intro v hv
    obtain ⟨_, _, _, hnum, _⟩ := hbd v hv
    obtain ⟨a, b, ha, hb, hf⟩ := fop_some hv
    obtain ⟨_, rfl⟩ := can_eq_some ha
    obtain ⟨_, rfl⟩ := can_eq_some hb
    have hf : ((FloatKind.f64.format.read x).sum (FloatKind.f64.format.read 4607182418800017408)).map FloatKind.f64.format.write = some v := hf
    obtain ⟨tot, _, s, c, h3, h4, _⟩ := sum_V hxi hoi
    rw [h3] at hf
    have hf := Option.some.inj hf
    have hge := nearest_ge .f64 s 1023 (sum_GeP (F := 0) (t + 53) h4 (by omega) (by
      rw [hsx, sV_one, v2, q3]
      generalize 2 ^ (t + 51) = P at w1 w2 v2 ⊢
      omega)) (by rw [fb64]; decide) (by decide) (by rw [bi64, inf64]; decide)
    rw [show FloatKind.f64.format.nearest s tot.natAbs (-1074 + (c : Int)) = v from hf] at hge
    have hlt : v % FloatKind.f64.format.signWeight < FloatKind.f64.format.infRung := by
      rcases Nat.lt_trichotomy (v % FloatKind.f64.format.signWeight) FloatKind.f64.format.infRung with h | h | h
      · exact h
      · rw [read_inf h] at hnum; cases hnum
      · have := nanW_of_lt h; unfold nanW at this; rw [hnum] at this; cases this
    exact Gd_word hge hlt v rfl

theorem Gd_odd {j : Nat} (hj : j < 13) : Gd .f64 0 (can .f64 (floatOfInt .f64 ((25 - 2 * j : Nat) : Int))) := by
  have key : ∀ j : Fin 13, (nanW .f64 (floatOfInt .f64 ((25 - 2 * j.val : Nat) : Int)) = false ∧ 1023 * FloatKind.f64.format.binade ≤ floatOfInt .f64 ((25 - 2 * j.val : Nat) : Int) % FloatKind.f64.format.signWeight ∧
      floatOfInt .f64 ((25 - 2 * j.val : Nat) : Int) % FloatKind.f64.format.signWeight < FloatKind.f64.format.infRung) := by decide +kernel
  obtain ⟨k1, k2, k3⟩ := key ⟨j, hj⟩
  rw [can_num k1]
  exact Gd_word k2 k3

theorem Bd_int {n : Int} (h : n.natAbs ≤ 2048) : Bd .f64 11 (can .f64 (floatOfInt .f64 n)) := by
  have hn : floatOfInt .f64 n = FloatKind.f64.format.nearest (n < 0) n.natAbs 0 := rfl
  intro v hv
  obtain ⟨_, rfl⟩ := can_eq_some hv
  rw [hn]
  exact nearest_Bd ⟨0, by decide, by decide, by simpa using h⟩ (by decide) (by decide)

end Flt
open Flt Go.RowKit

theorem Bd_polyL {u : Option Nat} (hu : Bd .f64 (-2) u) : ∀ j : Nat, j ≤ 13 → Bd .f64 1 (polyL u j) := by
  intro j
  induction j with
  | zero => intro _; exact (Bd_can (N := 1) (w := 0) (by decide) (by decide) (by decide) rfl).mono (by decide)
  | succ j ih =>
    intro hj
    have h1 := Bd_mul hu (ih (by omega)) (by decide) (by decide)
    have h2 := Bd_quo Bd_one (Gd_odd (j := j) (by omega)) (by decide) (by decide)
    exact Bd_add (E := 0) h2 (h1.mono (by decide)) (by decide) (by decide)

theorem Bd_logF {y : Nat} (r : Rng y) : Bd .f64 12 (logF (nW y) (nE y)) := by
  obtain ⟨h1, h2⟩ := nW_bd r
  obtain ⟨n1, n2⟩ := near_one h1 h2
  have hs := Bd_quo n1 n2 (by decide) (by decide)
  have hu := Bd_mul hs hs (by decide) (by decide)
  have hq := Bd_polyL hu 13 (by decide)
  have h3 := Bd_mul (Bd_can (w := 4611686018427387904) (N := 1024) (E := 1) (by decide) (by decide) (by decide) (by decide)) (Bd_mul hs hq (by decide) (by decide)) (by decide) (by decide)
  have h4 := Bd_mul (Bd_int (nE_bd r)) (Bd_can (w := 4604418534313441775) (N := 1023) (E := 0) (by decide) (by decide) (by decide) (by decide)) (by decide) (by decide)
  unfold logF
  exact Bd_add (E := 11) (h3.mono (by decide)) (h4.mono (by decide)) (by decide) (by decide)

end Go.Proofs.Ythhimielelpcoaa
