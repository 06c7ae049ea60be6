/-
  What is proved here: finite 32-bit and 64-bit numbers of at most 2 ^ E: their quotients, differences, products and sums are such numbers, widened and narrowed too. Conditions: as each theorem names. Own text.
-/
import Derived.Test.YtgiblioilpedfaaInt
import Derived.Test.YtgiblioilpedfaaRoot
namespace Go.Proofs.Ytgiblioilpedfaa
namespace Flt
open Ieee

/-- a finite number of at most 2 ^ E -/
def Fn (k : FloatKind) (E : Int) (x : Nat) : Prop := ∃ s m p, k.format.read x = .number s m p ∧ LeP m p E
/-- a finite number of at least 2 ^ F -/
def Gn (k : FloatKind) (F : Int) (x : Nat) : Prop := ∃ s m p, k.format.read x = .number s m p ∧ GeP m p F
theorem Fn.mono {k : FloatKind} {E E' : Int} {x : Nat} (h : Fn k E x) (he : E ≤ E') : Fn k E' x := let ⟨s, m, p, hr, hl⟩ := h; ⟨s, m, p, hr, hl.mono he⟩
theorem nearest_32 {neg : Bool} {m : Nat} {p E : Int} (h : LeP m p E) (h1 : -100 ≤ E) (h2 : E ≤ 100) : Fn .f32 E (FloatKind.f32.format.nearest neg m p) := by
  have hN : E + 1 = (FloatKind.f32.format.fractionBits : Int) + FloatKind.f32.format.leastPlace + ((E + 127).toNat : Nat) := by rw [fb32]; omega
  refine Bd_word (nearest_le .f32 neg (E + 127).toNat h hN (by omega)) hN (by omega) ?_ (by decide)
  rw [bi32, inf32]; omega
theorem quot_LeP2 {m n : Nat} {i j E F : Int} (h : LeP m i E) (g : GeP n j F) (B : Nat) (hB : 1 ≤ B) (more : Nat) (hmore : more = B + n.log2 - m.log2) :
    LeP (2 * (m <<< more / n) + (m <<< more % n != 0).toNat) (i - j - more - 1) (E - F) := by
  obtain ⟨c, h1, h2, h3⟩ := h
  obtain ⟨d, g1, g2, g3⟩ := g
  have hn : 0 < n := by
    rcases Nat.eq_zero_or_pos n with h0 | h0
    · subst h0; rw [Nat.zero_mul] at g3; have := Nat.two_pow_pos (F + d).toNat; omega
    · exact h0
  by_cases hm : m = 0
  · subst hm
    simp only [Nat.zero_shiftLeft, Nat.zero_div, Nat.zero_mod]
    exact LeP.zero _ _
  · have key : m * 2 ^ more * 2 ^ ((i + c).toNat + (F + d).toNat) ≤ n * 2 ^ ((E + c).toNat + (j + d).toNat + more) := by
      have := Nat.mul_le_mul h3 g3
      have := Nat.mul_le_mul_right (2 ^ more) this
      rw [Nat.pow_add, Nat.pow_add, Nat.pow_add]
      calc _ = m * 2 ^ (i + ↑c).toNat * 2 ^ (F + ↑d).toNat * 2 ^ more := by ac_rfl
        _ ≤ _ := this
        _ = _ := by ac_rfl
    rw [Nat.shiftLeft_eq]
    have hDn : n ≤ m * 2 ^ more := by
      have hm1 := Nat.log2_self_le hm
      have hn1 : n < 2 ^ (n.log2 + 1) := Nat.lt_log2_self
      by_cases hc : m.log2 ≤ B + n.log2
      · have : 2 ^ (m.log2 + more) ≤ m * 2 ^ more := by rw [Nat.pow_add]; exact Nat.mul_le_mul_right _ hm1
        have h5 : 2 ^ (n.log2 + 1) ≤ 2 ^ (m.log2 + more) := Nat.pow_le_pow_right (by decide) (by omega)
        omega
      · have h5 : 2 ^ (n.log2 + 1) ≤ 2 ^ m.log2 := Nat.pow_le_pow_right (by decide) (by omega)
        have : m ≤ m * 2 ^ more := Nat.le_mul_of_pos_right _ (Nat.two_pow_pos _)
        omega
    generalize hD : m * 2 ^ more = D at *
    by_cases ht : (i + c).toNat + (F + d).toNat ≤ (E + c).toNat + (j + d).toNat + more
    · obtain ⟨t, ht⟩ := Nat.le.dest ht
      rw [← ht, Nat.pow_add _ _ t, Nat.mul_comm (2 ^ ((i + c).toNat + (F + d).toNat)) (2 ^ t), ← Nat.mul_assoc] at key
      have key := Nat.le_of_mul_le_mul_right key (Nat.two_pow_pos _)
      have hX : 2 * (D / n) + (D % n != 0).toNat ≤ 2 ^ (t + 1) := by
        have hdm := Nat.div_add_mod D n
        rw [Nat.pow_succ]
        by_cases hr : D % n = 0
        · rw [hr]
          have : D / n ≤ 2 ^ t := Nat.div_le_of_le_mul key
          simp; omega
        · have : D / n < 2 ^ t := by
            rw [Nat.div_lt_iff_lt_mul hn, Nat.mul_comm]
            rcases Nat.lt_or_eq_of_le key with h | h
            · exact h
            · rw [h, Nat.mul_mod_right] at hr; exact absurd rfl hr
          have : (D % n != 0).toNat ≤ 1 := Bool.toNat_le _
          omega
      refine ⟨(j + more + 1 - i).toNat + (F - E).toNat, by omega, by omega, ?_⟩
      generalize 2 * (D / n) + (D % n != 0).toNat = X at *
      rw [show (E - F + (((j + more + 1 - i).toNat + (F - E).toNat : Nat) : Int)).toNat = (t + 1) + (i - j - more - 1 + (((j + more + 1 - i).toNat + (F - E).toNat : Nat) : Int)).toNat by omega, Nat.pow_add]
      exact Nat.mul_le_mul_right _ hX
    · exfalso
      obtain ⟨t, ht⟩ := Nat.le.dest (Nat.le_of_lt (Nat.lt_of_not_le ht))
      have ht1 : 1 ≤ t := by omega
      rw [← ht, Nat.pow_add _ _ t, Nat.mul_comm (2 ^ ((E + c).toNat + (j + d).toNat + more)) (2 ^ t), ← Nat.mul_assoc] at key
      have key := Nat.le_of_mul_le_mul_right key (Nat.two_pow_pos _)
      have : 2 ^ 1 ≤ 2 ^ t := Nat.pow_le_pow_right (by decide) ht1
      have := Nat.mul_le_mul_left D this
      omega
theorem Fn.quo {x y : Nat} {E F : Int} (hx : Fn .f32 E x) (hy : Gn .f32 F y) (h1 : -100 ≤ E - F) (h2 : E - F ≤ 100) : ∃ v, floatBits .quo .f32 x y = some v ∧ Fn .f32 (E - F) v := by
  obtain ⟨s, m, p, hr, hl⟩ := hx
  obtain ⟨t, n, q, hs, hm⟩ := hy
  have hn : n ≠ 0 := by
    rintro rfl
    obtain ⟨d, _, _, g3⟩ := hm
    rw [Nat.zero_mul] at g3; have := Nat.two_pow_pos (F + d).toNat; omega
  show ∃ v, ((FloatKind.f32.format.read x).quotient (FloatKind.f32.format.fractionBits + 2) (FloatKind.f32.format.read y)).map FloatKind.f32.format.write = some v ∧ _
  rw [hr, hs]
  simp only [Datum.quotient, if_neg hn, Option.map_some, Option.some.injEq, exists_eq_left']
  exact nearest_32 (quot_LeP2 hl hm _ (by omega) _ rfl) h1 h2
theorem Fn.sub {x y : Nat} {E : Int} (hx : Fn .f32 E x) (hy : Fn .f32 E y) (h1 : -100 ≤ E) (h2 : E ≤ 99) : ∃ v, floatBits .sub .f32 x y = some v ∧ Fn .f32 (E + 1) v := by
  obtain ⟨s, m, p, hr, hl⟩ := hx
  obtain ⟨t, n, q, hs, hm⟩ := hy
  show ∃ v, ((FloatKind.f32.format.read x).sum (FloatKind.f32.format.read y).opposite).map FloatKind.f32.format.write = some v ∧ _
  rw [hr, hs]
  simp only [Datum.opposite, Datum.sum, Option.map_some, Option.some.injEq, exists_eq_left']
  exact nearest_32 (hl.add hm) (by omega) (by omega)
theorem Fn.mul {x y : Nat} {E F : Int} (hx : Fn .f64 E x) (hy : Fn .f64 F y) (h1 : -1000 ≤ E + F) (h2 : E + F ≤ 1000) : ∃ v, floatBits .mul .f64 x y = some v ∧ Fn .f64 (E + F) v := by
  obtain ⟨s, m, p, hr, hl⟩ := hx
  obtain ⟨t, n, q, hs, hm⟩ := hy
  show ∃ v, ((FloatKind.f64.format.read x).product (FloatKind.f64.format.read y)).map FloatKind.f64.format.write = some v ∧ _
  rw [hr, hs]
  simp only [Datum.product, Option.map_some, Option.some.injEq, exists_eq_left']
  exact nearest_Bd (hl.mul hm) (by omega) (by omega)
theorem Fn.add {x y : Nat} {E : Int} (hx : Fn .f64 E x) (hy : Fn .f64 E y) (h1 : -1000 ≤ E) (h2 : E ≤ 999) : ∃ v, floatBits .add .f64 x y = some v ∧ Fn .f64 (E + 1) v := by
  obtain ⟨s, m, p, hr, hl⟩ := hx
  obtain ⟨t, n, q, hs, hm⟩ := hy
  show ∃ v, ((FloatKind.f64.format.read x).sum (FloatKind.f64.format.read y)).map FloatKind.f64.format.write = some v ∧ _
  rw [hr, hs]
  simp only [Datum.sum, Option.map_some, Option.some.injEq, exists_eq_left']
  exact nearest_Bd (hl.add hm) (by omega) (by omega)
theorem Fn.wide {x : Nat} {E : Int} (hx : Fn .f32 E x) (h1 : -1000 ≤ E) (h2 : E ≤ 1000) : ∃ v, floatToFloatBits .f32 x .f64 = some v ∧ Fn .f64 E v := by
  obtain ⟨s, m, p, hr, hl⟩ := hx
  have hd : FloatKind.f32.decode x = .number s m p := hr
  have hF := nearest_Bd (neg := s) hl h1 h2
  have hinf : (FloatKind.f64.decode (FloatKind.f64.format.nearest s m p)).isInfinity = false := by
    obtain ⟨s', m', p', h3, _⟩ := hF
    have : FloatKind.f64.decode (FloatKind.f64.format.nearest s m p) = .number s' m' p' := h3
    rw [this]; rfl
  unfold floatToFloatBits
  rw [if_neg (by decide), hd]
  dsimp only
  rw [encode_number]
  exact ⟨_, by rw [hinf]; rfl, hF⟩
theorem Fn.narrow {x : Nat} {E : Int} (hx : Fn .f64 E x) (hE : E ≤ 126) : ∃ v, floatToFloatBits .f64 x .f32 = some v := by
  obtain ⟨s, m, p, hr, hl⟩ := hx
  exact okNar_of_Bd (a := some x) (E := E) (fun v hv => by injection hv with hv; subst hv; exact ⟨s, m, p, hr, hl⟩) hE x rfl
/-- the word of an integer -/
theorem int_word (n : Nat) : floatOfInt .f32 (n : Int) = N .f32 false n := by
  have h0 : ¬ ((n : Int) < 0) := by omega
  show N .f32 (decide ((n : Int) < 0)) _ = _
  rw [decide_eq_false h0, Int.natAbs_natCast]
theorem lg32 {m : Nat} (h : m < 16777216) : m.log2 ≤ FloatKind.f32.format.fractionBits := by
  show m.log2 ≤ 23
  by_cases h0 : m = 0
  · subst h0; decide
  · have := (Nat.log2_lt h0).2 (show m < 2 ^ 24 from h)
    omega
theorem Fn_int (n : Nat) (h : n ≤ 4096) : Fn .f32 12 (N .f32 false n) := by
  obtain ⟨a, d, h1, h2, _⟩ := read_N .f32 false n (lg32 (by omega))
  refine ⟨_, _, _, h1, LL .f32, by rw [LL_eq]; omega, by omega, ?_⟩
  rw [LL_eq, show (-(LL .f32 : Int) + (d : Int) + (LL .f32 : Nat)).toNat = d by omega, h2, show ((12 : Int) + (LL .f32 : Nat)).toNat = 12 + LL .f32 by omega, Nat.pow_add]
  exact Nat.mul_le_mul_right _ h
theorem Gn_int (n : Nat) (h1 : 1 ≤ n) (h : n ≤ 4096) : Gn .f32 0 (N .f32 false n) := by
  obtain ⟨a, d, h3, h2, _⟩ := read_N .f32 false n (lg32 (by omega))
  refine ⟨_, _, _, h3, LL .f32, by rw [LL_eq]; omega, by omega, ?_⟩
  rw [LL_eq, show (-(LL .f32 : Int) + (d : Int) + (LL .f32 : Nat)).toNat = d by omega, h2, show ((0 : Int) + (LL .f32 : Nat)).toNat = LL .f32 by omega]
  exact Nat.le_mul_of_pos_left _ h1
theorem add_int {m n : Nat} (h : m + n < 16777216) : floatBits .add .f32 (N .f32 false m) (N .f32 false n) = some (N .f32 false (m + n)) := by
  have h3 : sg false m + sg false n = ((m + n : Nat) : Int) := by unfold sg; simp
  have := add_N .f32 (s := false) (t := false) (lg32 (m := m) (by omega)) (lg32 (m := n) (by omega)) (by rw [h3, Int.natAbs_natCast]; exact lg32 h)
  rw [h3, Int.natAbs_natCast] at this
  rw [this]
  unfold sgn
  by_cases h0 : ((m + n : Nat) : Int) = 0
  · rw [if_pos h0]; rfl
  · rw [if_neg h0, decide_eq_false (by omega)]
/-- the power of a difference narrows -/
theorem pow_ex {x y : Nat} {E : Int} (hx : Fn .f32 E x) (hy : Fn .f32 E y) (h1 : 0 ≤ E) (h2 : E ≤ 50) : ∃ X Y s t r q, floatToFloatBits .f32 x .f64 = some X ∧ floatToFloatBits .f32 y .f64 = some Y ∧ floatBits .mul .f64 X X = some s ∧ floatBits .mul .f64 Y Y = some t ∧ floatBits .add .f64 s t = some r ∧ floatToFloatBits .f64 r .f32 = some q := by
  obtain ⟨X, e1, f1⟩ := hx.wide (by omega) (by omega)
  obtain ⟨Y, e2, f2⟩ := hy.wide (by omega) (by omega)
  obtain ⟨s, e3, f3⟩ := f1.mul f1 (by omega) (by omega)
  obtain ⟨t, e4, f4⟩ := f2.mul f2 (by omega) (by omega)
  obtain ⟨r, e5, f5⟩ := f3.add f4 (by omega) (by omega)
  obtain ⟨q, e6⟩ := f5.narrow (by omega)
  exact ⟨X, Y, s, t, r, q, e1, e2, e3, e4, e5, e6⟩

end Flt
end Go.Proofs.Ytgiblioilpedfaa
