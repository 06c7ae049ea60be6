/-
  What is proved here: the law AngleTurns as a walk, whatever is drawn. Conditions: words fit their kinds.
-/
import Derived.Test.YtckhdbnoihieeaaDoorAngB
namespace Go.Proofs.YtckhdbnoihieeaaDoor
namespace Flt
open Ieee

/-- a quotient of what is at most 2 ^ G times the divisor -/
theorem quot_key {m n : Nat} {i j G : Int} (hn : 0 < n) (key : ∃ c : Nat, 0 ≤ i + c ∧ 0 ≤ G + j + c ∧ m * 2 ^ (i + c).toNat ≤ n * 2 ^ (G + j + c).toNat) (more : Nat) (hmore : more = 54 + n.log2 - m.log2) :
    LeP (2 * (m <<< more / n) + (m <<< more % n != 0).toNat) (i - j - more - 1) G := by
  by_cases hm : m = 0
  · subst hm
    simp only [Nat.zero_shiftLeft, Nat.zero_div, Nat.zero_mod]
    exact LeP.zero _ _
  · obtain ⟨c, h1, h2, h3⟩ := key
    have key : m * 2 ^ more * 2 ^ (i + c).toNat ≤ n * 2 ^ ((G + j + c).toNat + more) := by
      have := Nat.mul_le_mul_right (2 ^ more) h3
      rw [Nat.pow_add]
      calc _ = m * 2 ^ (i + ↑c).toNat * 2 ^ more := by ac_rfl
        _ ≤ _ := this
        _ = _ := by ac_rfl
    rw [Nat.shiftLeft_eq]
    have hDn : n ≤ m * 2 ^ more := by
      have hm1 := Nat.log2_self_le hm
      have hn1 : n < 2 ^ (n.log2 + 1) := Nat.lt_log2_self
      by_cases hc : m.log2 ≤ 54 + n.log2
      · have : 2 ^ (m.log2 + more) ≤ m * 2 ^ more := by rw [Nat.pow_add]; exact Nat.mul_le_mul_right _ hm1
        have h5 : 2 ^ (n.log2 + 1) ≤ 2 ^ (m.log2 + more) := Nat.pow_le_pow_right (by decide) (by omega)
        omega
      · have h5 : 2 ^ (n.log2 + 1) ≤ 2 ^ m.log2 := Nat.pow_le_pow_right (by decide) (by omega)
        have : m ≤ m * 2 ^ more := Nat.le_mul_of_pos_right _ (Nat.two_pow_pos _)
        omega
    generalize hD : m * 2 ^ more = D at *
    by_cases ht : (i + c).toNat ≤ (G + j + c).toNat + more
    · obtain ⟨t, ht⟩ := Nat.le.dest ht
      rw [← ht, Nat.pow_add _ _ t, Nat.mul_comm (2 ^ (i + c).toNat) (2 ^ t), ← Nat.mul_assoc] at key
      have key := Nat.le_of_mul_le_mul_right key (Nat.two_pow_pos _)
      have hX : 2 * (D / n) + (D % n != 0).toNat ≤ 2 ^ (t + 1) := by
        rw [Nat.pow_succ]
        by_cases hr : D % n = 0
        · rw [hr]
          have : D / n ≤ 2 ^ t := Nat.div_le_of_le_mul key
          simp; omega
        · have : D / n < 2 ^ t := by
            rw [Nat.div_lt_iff_lt_mul hn, Nat.mul_comm]
            rcases Nat.lt_or_eq_of_le key with h | h
            · exact h
            · rw [h, Nat.mul_mod_right] at hr; exact absurd rfl hr
          have : (D % n != 0).toNat ≤ 1 := Bool.toNat_le _
          omega
      refine ⟨(j + more + 1 - i).toNat + (-G).toNat, by omega, by omega, ?_⟩
      generalize 2 * (D / n) + (D % n != 0).toNat = X at *
      rw [show (G + (((j + more + 1 - i).toNat + (-G).toNat : Nat) : Int)).toNat = (t + 1) + (i - j - more - 1 + (((j + more + 1 - i).toNat + (-G).toNat : Nat) : Int)).toNat by omega, Nat.pow_add]
      exact Nat.mul_le_mul_right _ hX
    · exfalso
      obtain ⟨t, ht⟩ := Nat.le.dest (Nat.le_of_lt (Nat.lt_of_not_le ht))
      have ht1 : 1 ≤ t := by omega
      rw [← ht, Nat.pow_add _ _ t, Nat.mul_comm (2 ^ ((G + j + c).toNat + more)) (2 ^ t), ← Nat.mul_assoc] at key
      have key := Nat.le_of_mul_le_mul_right key (Nat.two_pow_pos _)
      have : 2 ^ 1 ≤ 2 ^ t := Nat.pow_le_pow_right (by decide) ht1
      have := Nat.mul_le_mul_left D this
      omega

/-- a quotient by what is not less -/
theorem Bd_quo_le {a b : Nat} (hb : b % FloatKind.f64.format.signWeight < FloatKind.f64.format.infRung) (h0 : 0 < b % FloatKind.f64.format.signWeight) (h : a % FloatKind.f64.format.signWeight ≤ b % FloatKind.f64.format.signWeight) :
    Bd .f64 0 (fop .quo .f64 (can .f64 a) (can .f64 b)) := by
  intro v hv
  obtain ⟨x, y, hx, hy, hf⟩ := fop_some hv
  obtain ⟨_, rfl⟩ := can_eq_some hx
  obtain ⟨_, rfl⟩ := can_eq_some hy
  obtain ⟨m, d, hr, hvm⟩ := read_V (k := .f64) (w := a) (by omega)
  obtain ⟨n, e, hs, hvn⟩ := read_V hb
  have hbp : 0 < FloatKind.f64.format.binade := Nat.two_pow_pos _
  have hle := V_le hbp h
  rw [← hvm, ← hvn] at hle
  have hn : 0 < n := by
    rcases Nat.eq_zero_or_pos n with h | h
    · subst h
      have := V_lt hbp h0
      rw [← hvn, Nat.zero_mul] at this
      omega
    · exact h
  have hf : ((FloatKind.f64.format.read a).quotient (FloatKind.f64.format.fractionBits + 2) (FloatKind.f64.format.read b)).map FloatKind.f64.format.write = some v := hf
  rw [hr, hs] at hf
  simp only [Datum.quotient, if_neg (Nat.ne_of_gt hn), Option.map_some, Option.some.injEq] at hf
  rw [← hf]
  have hl : FloatKind.f64.format.leastPlace = -1074 := by decide
  refine nearest_Bd (quot_key hn ⟨1074, by rw [hl]; omega, by rw [hl]; omega, ?_⟩ _ rfl) (by decide) (by decide)
  rw [hl, show ((-1074 : Int) + (d : Int) + ((1074 : Nat) : Int)).toNat = d by omega, show ((0 : Int) + (-1074 + (e : Int)) + ((1074 : Nat) : Int)).toNat = e by omega]
  exact hle

/-- what a root is: not less than nothing -/
theorem root_nn {a : Option Nat} {v : Nat} (h : fsqrt a = some v) (hb : ∃ s m p, FloatKind.f64.format.read v = .number s m p) : v % FloatKind.f64.format.signWeight < FloatKind.f64.format.infRung ∧ 0 ≤ sV .f64 v := by
  obtain ⟨s0, m0, p0, hnum⟩ := hb
  have hlt : v % FloatKind.f64.format.signWeight < FloatKind.f64.format.infRung := by
    rcases Nat.lt_trichotomy (v % FloatKind.f64.format.signWeight) FloatKind.f64.format.infRung with h | h | h
    · exact h
    · rw [read_inf h] at hnum; cases hnum
    · have := nanW_of_lt h; unfold nanW at this; rw [hnum] at this; cases this
  refine ⟨hlt, ?_⟩
  cases a with
  | none => cases h
  | some x =>
    have h : ((FloatKind.f64.format.read x).root (FloatKind.f64.format.fractionBits + 2)).map FloatKind.f64.format.write = some v := h
    cases hx : FloatKind.f64.format.read x with
    | nan s t => rw [hx] at h; cases h
    | infinity s =>
      rw [hx] at h
      cases s
      · have h : FloatKind.f64.format.write (.infinity false) = v := Option.some.inj h
        subst h
        exact absurd hlt (by decide)
      · cases h
    | number s m i =>
      rw [hx] at h
      unfold Datum.root at h
      dsimp only at h
      split at h
      · rename_i hm
        subst hm
        have h : FloatKind.f64.format.nearest s 0 i = v := Option.some.inj h
        have hz : v % FloatKind.f64.format.signWeight = 0 := by
          rw [← h]; unfold Format.nearest; rw [if_pos rfl, mod_word _ _ (Nat.two_pow_pos _)]
        unfold sV
        rw [hz, show V FloatKind.f64.format.binade 0 = 0 by rw [bi64]; decide]
        split <;> decide
      · split at h
        · cases h
        · have hs : (v / FloatKind.f64.format.signWeight % 2 == 1) = false := by
            have h := Option.some.inj h
            rw [← h]; exact nearest_sign ..
          unfold sV
          rw [hs]
          simp

/-- 1 with what is not less than nothing is at least 1 -/
theorem Gd_one_root {a : Option Nat} {E : Int} (ha : Bd .f64 E (fsqrt a)) (hE : 0 ≤ E) (hE2 : E ≤ 900) : Gd .f64 0 (fop .add .f64 (can .f64 4607182418800017408) (fsqrt a)) := by
  have hos : 4607182418800017408 < FloatKind.f64.format.signWeight := by rw [sw64]; decide
  have hoi : 4607182418800017408 % FloatKind.f64.format.signWeight < FloatKind.f64.format.infRung := by rw [Nat.mod_eq_of_lt hos, inf64]; decide
  have hbd := Bd_add (E := E) (Bd_one.mono hE) ha (by omega) (by omega)
  intro v hv
  obtain ⟨_, _, _, hnum, _⟩ := hbd v hv
  obtain ⟨x, y, hx, hy, hf⟩ := fop_some hv
  obtain ⟨_, rfl⟩ := can_eq_some hx
  obtain ⟨s, m, p, hr, _⟩ := ha y hy
  obtain ⟨hyl, hyn⟩ := root_nn hy ⟨s, m, p, hr⟩
  have hf : ((FloatKind.f64.format.read 4607182418800017408).sum (FloatKind.f64.format.read y)).map FloatKind.f64.format.write = some v := hf
  obtain ⟨tot, _, s, c, h3, h4, _⟩ := sum_V hoi hyl
  rw [h3] at hf
  have hf := Option.some.inj hf
  obtain ⟨t, ht⟩ : ∃ t : Nat, t = 1021 := ⟨_, rfl⟩
  obtain ⟨_, v2, _⟩ := V_marks t ht
  have ht1 : (t : Int) + 53 = 1074 := by omega
  clear ht
  obtain ⟨q, q2, q3⟩ := pows t
  rw [Nat.mul_assoc, q] at v2
  have hge := nearest_ge .f64 s 1023 (sum_GeP (F := 0) (t + 53) h4 (by omega) (by
    rw [sV_one, v2, q3]
    generalize 2 ^ (t + 51) = P at v2 ⊢
    omega)) (by rw [fb64]; decide) (by decide) (by rw [bi64, inf64]; decide)
  rw [show FloatKind.f64.format.nearest s tot.natAbs (-1074 + (c : Int)) = v from hf] at hge
  have hlt : v % FloatKind.f64.format.signWeight < FloatKind.f64.format.infRung := by
    rcases Nat.lt_trichotomy (v % FloatKind.f64.format.signWeight) FloatKind.f64.format.infRung with h | h | h
    · exact h
    · rw [read_inf h] at hnum; cases hnum
    · have := nanW_of_lt h; unfold nanW at this; rw [hnum] at this; cases this
  exact Gd_word hge hlt v rfl

end Flt
open Flt Go.RowKit

theorem Bd_stepT {t : Option Nat} (h : Bd .f64 0 t) : Bd .f64 0 (stepT t) := by
  have h1 := Bd_mul h h (by decide) (by decide)
  have h2 := Bd_add (E := 0) Bd_one h1 (by decide) (by decide)
  have h3 := Bd_sqrt h2 (by decide) (by decide)
  have h4 := Gd_one_root h3 (by decide) (by decide)
  exact Bd_quo h h4 (by decide) (by decide)

theorem Bd_stepsT {t : Option Nat} (h : Bd .f64 0 t) : ∀ j : Nat, Bd .f64 0 (stepsT t j) := by
  intro j
  induction j with
  | zero => exact h
  | succ j ih => exact Bd_stepT ih

theorem Gd_odd15 {j : Nat} (hj : j < 8) : Gd .f64 0 (can .f64 (floatOfInt .f64 ((15 - 2 * j : Nat) : Int))) := by
  have key : ∀ j : Fin 8, (nanW .f64 (floatOfInt .f64 ((15 - 2 * j.val : Nat) : Int)) = false ∧ 1023 * FloatKind.f64.format.binade ≤ floatOfInt .f64 ((15 - 2 * j.val : Nat) : Int) % FloatKind.f64.format.signWeight ∧
      floatOfInt .f64 ((15 - 2 * j.val : Nat) : Int) % FloatKind.f64.format.signWeight < FloatKind.f64.format.infRung) := by decide +kernel
  obtain ⟨k1, k2, k3⟩ := key ⟨j, hj⟩
  rw [can_num k1]
  exact Gd_word k2 k3

theorem Bd_polyA {u : Option Nat} (hu : Bd .f64 0 u) : ∀ j : Nat, j ≤ 8 → Bd .f64 (j : Int) (polyA u j) := by
  intro j
  induction j with
  | zero => intro _; exact (Bd_can (N := 1) (w := 0) (by decide) (by decide) (by decide) rfl).mono (by decide)
  | succ j ih =>
    intro hj
    have h1 := Bd_mul hu (ih (by omega)) (by omega) (by omega)
    have h2 := Bd_quo Bd_one (Gd_odd15 (j := j) (by omega)) (by decide) (by decide)
    have h3 := Bd_sub (E := (j : Int)) (h2.mono (by omega)) (h1.mono (by omega)) (by omega) (by omega)
    exact h3.mono (by omega)

theorem Bd_angF {t : Option Nat} (h : Bd .f64 0 t) : Bd .f64 11 (angF t) := by
  have hs := Bd_stepsT h 3
  have hu := Bd_mul hs hs (by decide) (by decide)
  have hp := Bd_polyA hu 8 (by decide)
  have h1 := Bd_mul (Bd_can (w := 4620693217682128896) (N := 1026) (E := 3) (by decide) (by decide) (by decide) (by decide)) (Bd_mul hs hp (by decide) (by decide)) (by decide) (by decide)
  have hg : Gd .f64 0 (can .f64 4618760256179416344) := by
    rw [show can .f64 4618760256179416344 = some 4618760256179416344 by decide]
    exact Gd_word (by decide) (by decide)
  unfold angF
  exact Bd_quo h1 hg (by decide) (by decide)

theorem ok_angC {t : Option Nat} (h : Bd .f64 0 t) (over sx sy : Bool) : okNar (angC t over sx sy) := by
  have h1 := Bd_angF h
  have hq : Bd .f64 0 (can .f64 4598175219545276416) := Bd_can (N := 1023) (by decide) (by decide) (by decide) (by decide)
  have h2 : Bd .f64 12 (if over = true then fop .sub .f64 (can .f64 4598175219545276416) (angF t) else angF t) := Bd_ite (Bd_sub (hq.mono (by decide)) h1 (by decide) (by decide)) (h1.mono (by decide))
  have h3 : Bd .f64 13 (if sx = true then fop .sub .f64 (can .f64 4602678819172646912) (if over = true then fop .sub .f64 (can .f64 4598175219545276416) (angF t) else angF t) else (if over = true then fop .sub .f64 (can .f64 4598175219545276416) (angF t) else angF t)) := Bd_ite (Bd_sub (Bd_half.mono (by decide)) h2 (by decide) (by decide)) (h2.mono (by decide))
  refine okNar_of_Bd (E := 13) ?_ (by decide)
  unfold angC
  exact Bd_ite (Bd_neg h3) h3

end Go.Proofs.YtckhdbnoihieeaaDoor
