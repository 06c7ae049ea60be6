/-
  What is proved here: bounds on the size of numbers through the operations: of a product, a sum, a quotient by what is not too small, each rounded; and that a 64-bit number of at most 2 ^ 126 narrows. Conditions: as each theorem names. Own text; no dump.
-/
import Derived.Test.YtnhcmloaanamnaaExa
namespace Go.Proofs.Ytnhcmloaanamnaa
namespace Flt
open Ieee

/-- 'm * 2 ^ p' is at most '2 ^ E' -/
def LeP (m : Nat) (p E : Int) : Prop := ∃ c : Nat, 0 ≤ p + c ∧ 0 ≤ E + c ∧ m * 2 ^ (p + c).toNat ≤ 2 ^ (E + c).toNat
/-- 'm * 2 ^ p' is at least '2 ^ F' -/
def GeP (m : Nat) (p F : Int) : Prop := ∃ c : Nat, 0 ≤ p + c ∧ 0 ≤ F + c ∧ 2 ^ (F + c).toNat ≤ m * 2 ^ (p + c).toNat

theorem LeP.up {m : Nat} {p E : Int} (h : LeP m p E) : ∃ c0 : Nat, ∀ c : Nat, c0 ≤ c → 0 ≤ p + c ∧ 0 ≤ E + c ∧ m * 2 ^ (p + c).toNat ≤ 2 ^ (E + c).toNat := by
  obtain ⟨c0, h1, h2, h3⟩ := h
  refine ⟨c0, fun c hc => ⟨by omega, by omega, ?_⟩⟩
  rw [show (p + (c : Int)).toNat = (p + (c0 : Int)).toNat + (c - c0) by omega, show (E + (c : Int)).toNat = (E + (c0 : Int)).toNat + (c - c0) by omega, Nat.pow_add, Nat.pow_add, ← Nat.mul_assoc]
  exact Nat.mul_le_mul_right _ h3
theorem GeP.up {m : Nat} {p E : Int} (h : GeP m p E) : ∃ c0 : Nat, ∀ c : Nat, c0 ≤ c → 0 ≤ p + c ∧ 0 ≤ E + c ∧ 2 ^ (E + c).toNat ≤ m * 2 ^ (p + c).toNat := by
  obtain ⟨c0, h1, h2, h3⟩ := h
  refine ⟨c0, fun c hc => ⟨by omega, by omega, ?_⟩⟩
  rw [show (p + (c : Int)).toNat = (p + (c0 : Int)).toNat + (c - c0) by omega, show (E + (c : Int)).toNat = (E + (c0 : Int)).toNat + (c - c0) by omega, Nat.pow_add, Nat.pow_add, ← Nat.mul_assoc]
  exact Nat.mul_le_mul_right _ h3

theorem LeP.zero (p E : Int) : LeP 0 p E := ⟨p.natAbs + E.natAbs, by omega, by omega, by rw [Nat.zero_mul]; exact Nat.zero_le _⟩

theorem LeP.mono {m : Nat} {p E E' : Int} (h : LeP m p E) (he : E ≤ E') : LeP m p E' := by
  obtain ⟨c, h1, h2, h3⟩ := h
  exact ⟨c, h1, by omega, Nat.le_trans h3 (Nat.pow_le_pow_right (by decide) (by omega))⟩

theorem LeP.mul {m n : Nat} {p q E F : Int} (h : LeP m p E) (g : LeP n q F) : LeP (m * n) (p + q) (E + F) := by
  obtain ⟨c, h1, h2, h3⟩ := h
  obtain ⟨d, g1, g2, g3⟩ := g
  refine ⟨c + d, by omega, by omega, ?_⟩
  rw [show (p + q + ((c + d : Nat) : Int)).toNat = (p + c).toNat + (q + d).toNat by omega, show (E + F + ((c + d : Nat) : Int)).toNat = (E + c).toNat + (F + d).toNat by omega, Nat.pow_add, Nat.pow_add]
  calc m * n * (2 ^ (p + ↑c).toNat * 2 ^ (q + ↑d).toNat) = (m * 2 ^ (p + ↑c).toNat) * (n * 2 ^ (q + ↑d).toNat) := by rw [Nat.mul_mul_mul_comm]
    _ ≤ _ := Nat.mul_le_mul h3 g3

/-- the size in digits -/
theorem LeP.log {m : Nat} {p E : Int} (h : LeP m p E) (hm : m ≠ 0) : p + m.log2 ≤ E ∧ (p + m.log2 = E → m = 2 ^ m.log2) := by
  obtain ⟨c, h1, h2, h3⟩ := h
  have hlo : 2 ^ m.log2 ≤ m := Nat.log2_self_le hm
  have h4 : 2 ^ (m.log2 + (p + c).toNat) ≤ 2 ^ (E + c).toNat := by
    rw [Nat.pow_add]; exact Nat.le_trans (Nat.mul_le_mul_right _ hlo) h3
  have h5 : m.log2 + (p + c).toNat ≤ (E + c).toNat := (Nat.pow_le_pow_iff_right (by decide)).1 h4
  refine ⟨by omega, fun he => ?_⟩
  have h6 : (E + c).toNat = m.log2 + (p + c).toNat := by omega
  rw [h6, Nat.pow_add] at h3
  exact Nat.le_antisymm (Nat.le_of_mul_le_mul_right h3 (Nat.two_pow_pos _)) hlo

theorem cut_pow (neg : Bool) (j drop : Nat) (h : drop ≤ j) : Toward.even.cut neg (2 ^ j) drop = 2 ^ (j - drop) := by
  unfold Toward.cut
  dsimp only
  rw [Nat.log2_two_pow, Nat.min_eq_left (by omega), Nat.shiftLeft_eq, Nat.one_mul]
  have e : 2 ^ j = 2 ^ (j - drop) * 2 ^ drop := by rw [← Nat.pow_add]; congr 1; omega
  have hp : 0 < 2 ^ drop := Nat.two_pow_pos _
  rw [e, Nat.mul_div_cancel _ hp, Nat.mul_mod_left]
  simp

/-- A NUMBER OF AT MOST 2 ^ E IS ROUNDED TO ONE OF AT MOST 2 ^ E -/
theorem nearest_le (k : FloatKind) (neg : Bool) {m : Nat} {p E : Int} (N : Nat) (h : LeP m p E) (hE : E + 1 = k.format.fractionBits + k.format.leastPlace + N) (hN : 2 ≤ N) :
    k.format.nearest neg m p % k.format.signWeight ≤ N * k.format.binade := by
  by_cases hm : m = 0
  · exact nearest_rung k neg m p N (.inl hm) hN
  · obtain ⟨h1, h2⟩ := h.log hm
    rcases Int.lt_or_eq_of_le h1 with hlt | heq
    · exact nearest_rung k neg m p N (.inr (by omega)) hN
    · have hj := h2 heq
      generalize m.log2 = j at *
      subst hj
      unfold Format.nearest
      dsimp only
      rw [if_neg hm, mod_word _ _ (Nat.lt_of_le_of_lt (Nat.min_le_right ..) (inf_lt k)), Nat.log2_two_pow]
      refine Nat.le_trans (Nat.min_le_left ..) ?_
      rw [Int.max_eq_left (by omega)]
      have hB : k.format.binade = 2 ^ k.format.fractionBits := rfl
      have hk : Toward.even.cut neg ((2 ^ j) <<< (p - (p + (j : Int) - (k.format.fractionBits : Int))).toNat) (p + (j : Int) - (k.format.fractionBits : Int) - p).toNat = k.format.binade := by
        by_cases hc : j ≤ k.format.fractionBits
        · rw [show (p + (j : Int) - (k.format.fractionBits : Int) - p).toNat = 0 by omega, cut_zero, show (p - (p + (j : Int) - (k.format.fractionBits : Int))).toNat = k.format.fractionBits - j by omega, Nat.shiftLeft_eq, ← Nat.pow_add, hB]
          congr 1; omega
        · rw [show (p - (p + (j : Int) - (k.format.fractionBits : Int))).toNat = 0 by omega, Nat.shiftLeft_zero, show (p + (j : Int) - (k.format.fractionBits : Int) - p).toNat = j - k.format.fractionBits by omega, cut_pow _ _ _ (by omega), hB]
          congr 1; omega
      rw [hk, show (p + (j : Int) - (k.format.fractionBits : Int) - k.format.leastPlace).toNat = N - 1 by omega]
      have : (N - 1 + 1) * k.format.binade = N * k.format.binade := by congr 1; omega
      rw [Nat.add_mul, Nat.one_mul] at this
      omega

theorem V_mul {B : Nat} (hB : 0 < B) (N : Nat) (hN : 1 ≤ N) : V B (N * B) = B * 2 ^ (N - 1) := by
  unfold V
  rw [if_neg (by have := Nat.mul_le_mul_right B hN; omega), Nat.mul_mod_left, Nat.mul_div_cancel _ hB, Nat.add_zero]

theorem V_le {B a b : Nat} (hB : 0 < B) (h : a ≤ b) : V B a ≤ V B b := by
  rcases Nat.lt_or_eq_of_le h with h | rfl
  · exact Nat.le_of_lt (V_lt hB h)
  · exact Nat.le_refl _

/-- a number of at most 2 ^ E, if it is one -/
def Bd (k : FloatKind) (E : Int) (a : Option Nat) : Prop := ∀ v, a = some v → ∃ s m p, k.format.read v = .number s m p ∧ LeP m p E

theorem Bd_word {k : FloatKind} {w N : Nat} {E : Int} (h : w % k.format.signWeight ≤ N * k.format.binade) (hE : E + 1 = k.format.fractionBits + k.format.leastPlace + N) (hN : 1 ≤ N) (hi : N * k.format.binade < k.format.infRung) (hl : k.format.leastPlace ≤ 0) :
    ∃ s m p, k.format.read w = .number s m p ∧ LeP m p E := by
  have hbp : 0 < k.format.binade := Nat.two_pow_pos _
  obtain ⟨m, d, hr, hv⟩ := read_V (k := k) (w := w) (by omega)
  refine ⟨_, m, _, hr, (-k.format.leastPlace).toNat, by omega, by omega, ?_⟩
  have h1 := V_le hbp h
  rw [V_mul hbp N hN, ← hv] at h1
  rw [show (k.format.leastPlace + (d : Int) + ((-k.format.leastPlace).toNat : Int)).toNat = d by omega, show (E + ((-k.format.leastPlace).toNat : Int)).toNat = k.format.fractionBits + (N - 1) by omega, Nat.pow_add]
  exact h1

theorem nearest_Bd {neg : Bool} {m : Nat} {p E : Int} (h : LeP m p E) (h1 : -1000 ≤ E) (h2 : E ≤ 1000) : ∃ s m' p', FloatKind.f64.format.read (FloatKind.f64.format.nearest neg m p) = .number s m' p' ∧ LeP m' p' E := by
  have hN : E + 1 = (FloatKind.f64.format.fractionBits : Int) + FloatKind.f64.format.leastPlace + ((E + 1023).toNat : Nat) := by rw [fb64]; omega
  refine Bd_word (nearest_le .f64 neg (E + 1023).toNat h hN (by omega)) hN (by omega) ?_ (by decide)
  rw [bi64, inf64]; omega

theorem Bd.mono {k : FloatKind} {a : Option Nat} {E E' : Int} (h : Bd k E a) (he : E ≤ E') : Bd k E' a := fun v hv => let ⟨s, m, p, hr, hl⟩ := h v hv; ⟨s, m, p, hr, hl.mono he⟩

theorem Bd_none (k : FloatKind) (E : Int) : Bd k E none := fun _ h => by cases h

theorem fop_some {op : BinOp} {k : FloatKind} {a b : Option Nat} {v : Nat} (h : fop op k a b = some v) : ∃ x y, a = some x ∧ b = some y ∧ floatBits op k x y = some v := by
  cases a with
  | none => cases h
  | some x =>
    cases b with
    | none => cases h
    | some y => exact ⟨x, y, rfl, rfl, h⟩

theorem Bd_mul {a b : Option Nat} {E F : Int} (ha : Bd .f64 E a) (hb : Bd .f64 F b) (h1 : -1000 ≤ E + F) (h2 : E + F ≤ 1000) : Bd .f64 (E + F) (fop .mul .f64 a b) := by
  intro v hv
  obtain ⟨x, y, rfl, rfl, h⟩ := fop_some hv
  obtain ⟨s, m, p, hr, hl⟩ := ha x rfl
  obtain ⟨t, n, q, hs, hm⟩ := hb y rfl
  have h : ((FloatKind.f64.format.read x).product (FloatKind.f64.format.read y)).map FloatKind.f64.format.write = some v := h
  rw [hr, hs] at h
  simp only [Datum.product, Option.map_some, Option.some.injEq] at h
  rw [← h]
  exact nearest_Bd (hl.mul hm) h1 h2

theorem signed_abs (s : Bool) (m u : Nat) : (signed s m u).natAbs = m * 2 ^ u := by
  rw [← Nat.shiftLeft_eq]
  cases s
  · exact Int.natAbs_natCast _
  · exact (Int.natAbs_neg _).trans (Int.natAbs_natCast _)

theorem LeP.add {s t : Bool} {m n : Nat} {p q E : Int} (h : LeP m p E) (g : LeP n q E) :
    LeP (signed s m (p - min p q).toNat + signed t n (q - min p q).toNat).natAbs (min p q) (E + 1) := by
  obtain ⟨c0, h⟩ := h.up
  obtain ⟨d0, g⟩ := g.up
  obtain ⟨h1, h2, h3⟩ := h (c0 + d0) (by omega)
  obtain ⟨g1, _, g3⟩ := g (c0 + d0) (by omega)
  generalize c0 + d0 = c at *
  refine ⟨c, by omega, by omega, ?_⟩
  have ht := Int.natAbs_add_le (signed s m (p - min p q).toNat) (signed t n (q - min p q).toNat)
  rw [signed_abs, signed_abs] at ht
  have e1 : m * 2 ^ (p - min p q).toNat * 2 ^ (min p q + c).toNat = m * 2 ^ (p + c).toNat := by
    rw [Nat.mul_assoc, ← Nat.pow_add]; congr 2; omega
  have e2 : n * 2 ^ (q - min p q).toNat * 2 ^ (min p q + c).toNat = n * 2 ^ (q + c).toNat := by
    rw [Nat.mul_assoc, ← Nat.pow_add]; congr 2; omega
  have e3 : 2 ^ (E + 1 + c).toNat = 2 ^ (E + c).toNat + 2 ^ (E + c).toNat := by
    rw [show (E + 1 + (c : Int)).toNat = (E + c).toNat + 1 by omega, Nat.pow_succ]; omega
  have := Nat.mul_le_mul_right (2 ^ (min p q + c).toNat) ht
  rw [Nat.add_mul, e1, e2] at this
  omega

theorem Bd_add {a b : Option Nat} {E : Int} (ha : Bd .f64 E a) (hb : Bd .f64 E b) (h1 : -1000 ≤ E) (h2 : E ≤ 999) : Bd .f64 (E + 1) (fop .add .f64 a b) := by
  intro v hv
  obtain ⟨x, y, rfl, rfl, h⟩ := fop_some hv
  obtain ⟨s, m, p, hr, hl⟩ := ha x rfl
  obtain ⟨t, n, q, hs, hm⟩ := hb y rfl
  have h : ((FloatKind.f64.format.read x).sum (FloatKind.f64.format.read y)).map FloatKind.f64.format.write = some v := h
  rw [hr, hs] at h
  simp only [Datum.sum, Option.map_some, Option.some.injEq] at h
  rw [← h]
  exact nearest_Bd (hl.add hm) (by omega) (by omega)

theorem Bd_sub {a b : Option Nat} {E : Int} (ha : Bd .f64 E a) (hb : Bd .f64 E b) (h1 : -1000 ≤ E) (h2 : E ≤ 999) : Bd .f64 (E + 1) (fop .sub .f64 a b) := by
  intro v hv
  obtain ⟨x, y, rfl, rfl, h⟩ := fop_some hv
  obtain ⟨s, m, p, hr, hl⟩ := ha x rfl
  obtain ⟨t, n, q, hs, hm⟩ := hb y rfl
  have h : ((FloatKind.f64.format.read x).sum (FloatKind.f64.format.read y).opposite).map FloatKind.f64.format.write = some v := h
  rw [hr, hs] at h
  simp only [Datum.opposite, Datum.sum, Option.map_some, Option.some.injEq] at h
  rw [← h]
  exact nearest_Bd (hl.add hm) (by omega) (by omega)

/-- a positive or negative number of at least 2 ^ F -/
def Gd (k : FloatKind) (F : Int) (a : Option Nat) : Prop := ∀ v, a = some v → ∃ s m p, k.format.read v = .number s m p ∧ GeP m p F

theorem quot_LeP {m n : Nat} {i j E F : Int} (h : LeP m i E) (g : GeP n j F) (more : Nat) (hmore : more = 54 + n.log2 - m.log2) :
    LeP (2 * (m <<< more / n) + (m <<< more % n != 0).toNat) (i - j - more - 1) (E - F) := by
  obtain ⟨c, h1, h2, h3⟩ := h
  obtain ⟨d, g1, g2, g3⟩ := g
  have hn : 0 < n := by
    rcases Nat.eq_zero_or_pos n with h0 | h0
    · subst h0; rw [Nat.zero_mul] at g3; have := Nat.two_pow_pos (F + d).toNat; omega
    · exact h0
  by_cases hm : m = 0
  · subst hm
    simp only [Nat.zero_shiftLeft, Nat.zero_div, Nat.zero_mod]
    exact LeP.zero _ _
  · have key : m * 2 ^ more * 2 ^ ((i + c).toNat + (F + d).toNat) ≤ n * 2 ^ ((E + c).toNat + (j + d).toNat + more) := by
      have := Nat.mul_le_mul h3 g3
      have := Nat.mul_le_mul_right (2 ^ more) this
      rw [Nat.pow_add, Nat.pow_add, Nat.pow_add]
      calc _ = m * 2 ^ (i + ↑c).toNat * 2 ^ (F + ↑d).toNat * 2 ^ more := by ac_rfl
        _ ≤ _ := this
        _ = _ := by ac_rfl
    rw [Nat.shiftLeft_eq]
    have hDn : n ≤ m * 2 ^ more := by
      have hm1 := Nat.log2_self_le hm
      have hn1 : n < 2 ^ (n.log2 + 1) := Nat.lt_log2_self
      by_cases hc : m.log2 ≤ 54 + n.log2
      · have : 2 ^ (m.log2 + more) ≤ m * 2 ^ more := by rw [Nat.pow_add]; exact Nat.mul_le_mul_right _ hm1
        have h5 : 2 ^ (n.log2 + 1) ≤ 2 ^ (m.log2 + more) := Nat.pow_le_pow_right (by decide) (by omega)
        omega
      · have h5 : 2 ^ (n.log2 + 1) ≤ 2 ^ m.log2 := Nat.pow_le_pow_right (by decide) (by omega)
        have : m ≤ m * 2 ^ more := Nat.le_mul_of_pos_right _ (Nat.two_pow_pos _)
        omega
    generalize hD : m * 2 ^ more = D at *
    by_cases ht : (i + c).toNat + (F + d).toNat ≤ (E + c).toNat + (j + d).toNat + more
    · obtain ⟨t, ht⟩ := Nat.le.dest ht
      rw [← ht, Nat.pow_add _ _ t, Nat.mul_comm (2 ^ ((i + c).toNat + (F + d).toNat)) (2 ^ t), ← Nat.mul_assoc] at key
      have key := Nat.le_of_mul_le_mul_right key (Nat.two_pow_pos _)
      have hX : 2 * (D / n) + (D % n != 0).toNat ≤ 2 ^ (t + 1) := by
        have hdm := Nat.div_add_mod D n
        rw [Nat.pow_succ]
        by_cases hr : D % n = 0
        · rw [hr]
          have : D / n ≤ 2 ^ t := Nat.div_le_of_le_mul key
          simp; omega
        · have : D / n < 2 ^ t := by
            rw [Nat.div_lt_iff_lt_mul hn, Nat.mul_comm]
            rcases Nat.lt_or_eq_of_le key with h | h
            · exact h
            · rw [h, Nat.mul_mod_right] at hr; exact absurd rfl hr
          have : (D % n != 0).toNat ≤ 1 := Bool.toNat_le _
          omega
      refine ⟨(j + more + 1 - i).toNat + (F - E).toNat, by omega, by omega, ?_⟩
      generalize 2 * (D / n) + (D % n != 0).toNat = X at *
      rw [show (E - F + (((j + more + 1 - i).toNat + (F - E).toNat : Nat) : Int)).toNat = (t + 1) + (i - j - more - 1 + (((j + more + 1 - i).toNat + (F - E).toNat : Nat) : Int)).toNat by omega, Nat.pow_add]
      exact Nat.mul_le_mul_right _ hX
    · exfalso
      obtain ⟨t, ht⟩ := Nat.le.dest (Nat.le_of_lt (Nat.lt_of_not_le ht))
      have ht1 : 1 ≤ t := by omega
      rw [← ht, Nat.pow_add _ _ t, Nat.mul_comm (2 ^ ((E + c).toNat + (j + d).toNat + more)) (2 ^ t), ← Nat.mul_assoc] at key
      have key := Nat.le_of_mul_le_mul_right key (Nat.two_pow_pos _)
      have : 2 ^ 1 ≤ 2 ^ t := Nat.pow_le_pow_right (by decide) ht1
      have := Nat.mul_le_mul_left D this
      omega

theorem Bd_quo {a b : Option Nat} {E F : Int} (ha : Bd .f64 E a) (hb : Gd .f64 F b) (h1 : -1000 ≤ E - F) (h2 : E - F ≤ 1000) : Bd .f64 (E - F) (fop .quo .f64 a b) := by
  intro v hv
  obtain ⟨x, y, rfl, rfl, h⟩ := fop_some hv
  obtain ⟨s, m, p, hr, hl⟩ := ha x rfl
  obtain ⟨t, n, q, hs, hm⟩ := hb y rfl
  have h : ((FloatKind.f64.format.read x).quotient (FloatKind.f64.format.fractionBits + 2) (FloatKind.f64.format.read y)).map FloatKind.f64.format.write = some v := h
  rw [hr, hs] at h
  have hn : n ≠ 0 := by
    rintro rfl
    obtain ⟨d, _, _, g3⟩ := hm
    rw [Nat.zero_mul] at g3; have := Nat.two_pow_pos (F + d).toNat; omega
  simp only [Datum.quotient, if_neg hn, Option.map_some, Option.some.injEq] at h
  rw [← h]
  exact nearest_Bd (quot_LeP hl hm _ rfl) h1 h2

theorem Bd_neg {k : FloatKind} {a : Option Nat} {E : Int} (ha : Bd k E a) : Bd k E (fneg k a) := by
  intro v hv
  cases a with
  | none => cases hv
  | some x =>
    obtain ⟨s, m, p, hr, hl⟩ := ha x rfl
    have hv : Op.negFloat k x = v := Option.some.inj hv
    subst hv
    have hlt : x % k.format.signWeight < k.format.infRung := by
      rcases Nat.lt_trichotomy (x % k.format.signWeight) k.format.infRung with h1 | h1 | h1
      · exact h1
      · rw [read_inf h1] at hr; cases hr
      · have := nanW_of_lt h1; unfold nanW at this; rw [hr] at this; cases this
    obtain ⟨m', d, hr', hv'⟩ := read_V hlt
    obtain ⟨m2, d2, hr2, hv2⟩ := read_V (k := k) (w := Op.negFloat k x) (by rw [neg_mod]; exact hlt)
    rw [neg_mod, ← hv'] at hv2
    rw [hr] at hr'
    injection hr' with _ e1 e2
    subst e1 e2
    refine ⟨_, m2, _, hr2, ?_⟩
    obtain ⟨c0, hl⟩ := hl.up
    obtain ⟨q1, q2, q3⟩ := hl (c0 + k.format.leastPlace.natAbs) (by omega)
    have hcl : 0 ≤ k.format.leastPlace + ((c0 + k.format.leastPlace.natAbs : Nat) : Int) := by omega
    generalize c0 + k.format.leastPlace.natAbs = c at *
    refine ⟨c, by omega, q2, ?_⟩
    rw [show (k.format.leastPlace + (d2 : Int) + c).toNat = d2 + (k.format.leastPlace + c).toNat by omega, Nat.pow_add, ← Nat.mul_assoc, hv2, Nat.mul_assoc, ← Nat.pow_add, show d + (k.format.leastPlace + c).toNat = (k.format.leastPlace + (d : Int) + c).toNat by omega]
    exact q3

/-- WHAT IS AT MOST 2 ^ 126 NARROWS -/
theorem okNar_of_Bd {a : Option Nat} {E : Int} (ha : Bd .f64 E a) (hE : E ≤ 126) : okNar a := by
  intro v hv
  obtain ⟨s, m, p, hr, hl⟩ := ha v hv
  have hd : FloatKind.f64.decode v = .number s m p := hr
  unfold floatToFloatBits
  rw [if_neg (by decide), hd]
  dsimp only
  rw [if_neg]
  · exact ⟨_, rfl⟩
  · rw [encode_number, isInf_read]
    · decide
    · have := nearest_le .f32 s 253 (hl.mono hE) (by rw [fb32]; omega) (by decide)
      refine Nat.lt_of_le_of_lt this ?_
      rw [bi32, inf32]; decide

end Flt
end Go.Proofs.Ytnhcmloaanamnaa
