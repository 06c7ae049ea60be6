/-
  What is proved here: integers are added, taken, multiplied, divided where nothing is left, narrowed, widened, compared and made integers again exactly. Conditions: they have no more binary digits than a number's fraction. Own text; no dump.
-/
import Derived.Test.YtnhcmloaanamnaaLogA
import Derived.Laws.ComplexArith
namespace Go.Proofs.Ytnhcmloaanamnaa
namespace Flt
open Ieee

/-- the word of an integer with a sign -/
def N (k : FloatKind) (s : Bool) (m : Nat) : Nat := k.format.nearest s m 0
def sg (s : Bool) (m : Nat) : Int := if s then -(m : Int) else m
def LL (k : FloatKind) : Nat := (-k.format.leastPlace).toNat
theorem LL_eq (k : FloatKind) : k.format.leastPlace = -(LL k : Int) := by cases k <;> decide
theorem LL_room (k : FloatKind) : (LL k + k.format.fractionBits + 2 : Int) ≤ k.format.fractionBits + (2 ^ k.format.exponentBits - 1 : Nat) := by cases k <;> decide

theorem near_val (k : FloatKind) (s : Bool) {a b : Nat} {p : Int} (Q : Nat) (h0 : 0 ≤ p + Q) (h : a * 2 ^ (p + Q).toNat = b * 2 ^ Q) (hb : b.log2 ≤ k.format.fractionBits) : k.format.nearest s a p = N k s b := by
  have hlp := LL_eq k
  obtain ⟨q, hq⟩ : ∃ q : Nat, p + Q = q := ⟨(p + Q).toNat, by omega⟩
  rw [hq, Int.toNat_natCast] at h
  by_cases hb0 : b = 0
  · have ha : a = 0 := by
      rw [hb0, Nat.zero_mul] at h
      exact (Nat.mul_eq_zero.1 h).resolve_right (Nat.ne_of_gt (Nat.two_pow_pos _))
    rw [ha, hb0]
    unfold N Format.nearest
    rw [if_pos rfl, if_pos rfl]
  · have ha0 : a ≠ 0 := by
      intro e
      rw [e, Nat.zero_mul] at h
      exact hb0 ((Nat.mul_eq_zero.1 h.symm).resolve_right (Nat.ne_of_gt (Nat.two_pow_pos _)))
    unfold N
    by_cases hp : 0 ≤ p
    · obtain ⟨j, hj⟩ : ∃ j : Nat, p = j := ⟨p.toNat, by omega⟩
      have e : b = a * 2 ^ j := by
        rw [show q = j + Q by omega, Nat.pow_add, ← Nat.mul_assoc] at h
        exact (Nat.eq_of_mul_eq_mul_right (Nat.two_pow_pos Q) h).symm
      have hal : a.log2 ≤ k.format.fractionBits := by
        have h1 : a ≤ b := by rw [e]; exact Nat.le_mul_of_pos_right _ (Nat.two_pow_pos _)
        have h2 : b < 2 ^ (k.format.fractionBits + 1) := (Nat.log2_lt hb0).1 (by omega)
        have := (Nat.log2_lt ha0).2 (Nat.lt_of_le_of_lt h1 h2)
        omega
      rw [e, nearest_scale k s a j 0 ha0 hal (by omega), hj]
      congr 1; omega
    · obtain ⟨j, hj⟩ : ∃ j : Nat, p = -(j : Int) := ⟨(-p).toNat, by omega⟩
      have e : a = b * 2 ^ j := by
        rw [show Q = j + q by omega, Nat.pow_add, ← Nat.mul_assoc] at h
        exact Nat.eq_of_mul_eq_mul_right (Nat.two_pow_pos q) h
      rw [e, hj, nearest_scale k s b j (-(j : Int)) hb0 hb (by omega)]
      congr 1; omega

theorem read_N (k : FloatKind) (s : Bool) (m : Nat) (hm : m.log2 ≤ k.format.fractionBits) :
    ∃ a d : Nat, k.format.read (N k s m) = .number s a (k.format.leastPlace + d) ∧ a * 2 ^ d = m * 2 ^ LL k ∧ N k s m % k.format.signWeight < k.format.infRung := by
  have hlp := LL_eq k
  have hr := LL_room k
  obtain ⟨h1, h2⟩ := nearest_exact k s m 0 (.inr hm) (LL k) (by omega) (.inr (by omega))
  obtain ⟨a, d, h3, h4⟩ := read_V (k := k) (w := N k s m) h2
  have h5 : (N k s m / k.format.signWeight % 2 == 1) = s := nearest_sign k s m 0
  rw [h5] at h3
  exact ⟨a, d, h3, by rw [h4]; exact h1, h2⟩

theorem fin_N (k : FloatKind) (s : Bool) (m : Nat) (hm : m.log2 ≤ k.format.fractionBits) : N k s m % k.format.signWeight < k.format.infRung := by
  obtain ⟨_, _, _, _, h⟩ := read_N k s m hm
  exact h
theorem wf_N (k : FloatKind) (s : Bool) (m : Nat) : WF k (N k s m) := ⟨k.format.write_lt (.number s m 0)⟩

theorem sV_N (k : FloatKind) (s : Bool) (m : Nat) (hm : m.log2 ≤ k.format.fractionBits) : sV k (N k s m) = sg s m * (2 ^ LL k : Nat) := by
  have hlp := LL_eq k
  have hr := LL_room k
  obtain ⟨h1, _⟩ := nearest_exact k s m 0 (.inr hm) (LL k) (by omega) (.inr (by omega))
  have h5 : (N k s m / k.format.signWeight % 2 == 1) = s := nearest_sign k s m 0
  unfold sV
  rw [h5]
  unfold N
  rw [h1]
  unfold sg
  cases s
  · simp
  · simp [Int.neg_mul]

theorem order_N (k : FloatKind) {s t : Bool} {m n : Nat} (hm : m.log2 ≤ k.format.fractionBits) (hn : n.log2 ≤ k.format.fractionBits) : k.format.order (N k s m) (N k t n) = some (compare (sg s m) (sg t n)) := by
  rw [order_sV (fin_N k s m hm) (fin_N k t n hn), sV_N k s m hm, sV_N k t n hn, compare_int (Nat.two_pow_pos _)]

theorem mul_N (k : FloatKind) {s t : Bool} {m n : Nat} (hm : m.log2 ≤ k.format.fractionBits) (hn : n.log2 ≤ k.format.fractionBits) (h : (m * n).log2 ≤ k.format.fractionBits) : floatBits .mul k (N k s m) (N k t n) = some (N k (s ^^ t) (m * n)) := by
  have hlp := LL_eq k
  obtain ⟨a, d, h1, h2, _⟩ := read_N k s m hm
  obtain ⟨b, e, h3, h4, _⟩ := read_N k t n hn
  show ((k.format.read (N k s m)).product (k.format.read (N k t n))).map k.format.write = _
  rw [h1, h3]
  show some (k.format.nearest (s ^^ t) (a * b) (k.format.leastPlace + d + (k.format.leastPlace + e))) = _
  rw [near_val k (s ^^ t) (b := m * n) (2 * LL k) (by omega) ?_ h]
  rw [show (k.format.leastPlace + (d : Int) + (k.format.leastPlace + (e : Int)) + ((2 * LL k : Nat) : Int)).toNat = d + e by omega]
  calc a * b * 2 ^ (d + e) = (a * 2 ^ d) * (b * 2 ^ e) := by rw [Nat.pow_add]; ac_rfl
    _ = m * n * 2 ^ (2 * LL k) := by rw [h2, h4, Nat.two_mul, Nat.pow_add]; ac_rfl

/-- the sum's sign -/
def sgn (s t : Bool) (z : Int) : Bool := if z = 0 then s && t else decide (z < 0)

theorem sum_N (k : FloatKind) {s t : Bool} {m n a b d e : Nat} (h2 : a * 2 ^ d = m * 2 ^ LL k) (h4 : b * 2 ^ e = n * 2 ^ LL k) (h : (sg s m + sg t n).natAbs.log2 ≤ k.format.fractionBits) :
    ((Datum.number s a (k.format.leastPlace + d)).sum (Datum.number t b (k.format.leastPlace + e))).map k.format.write = some (N k (sgn s t (sg s m + sg t n)) (sg s m + sg t n).natAbs) := by
  have hlp := LL_eq k
  unfold Datum.sum
  dsimp only
  have hb : min (k.format.leastPlace + (d : Int)) (k.format.leastPlace + (e : Int)) = k.format.leastPlace + (min d e : Nat) := by omega
  rw [hb, show (k.format.leastPlace + (d : Int) - (k.format.leastPlace + (min d e : Nat))).toNat = d - min d e by omega, show (k.format.leastPlace + (e : Int) - (k.format.leastPlace + (min d e : Nat))).toNat = e - min d e by omega]
  have key : (signed s a (d - min d e) + signed t b (e - min d e)) * (2 ^ min d e : Nat) = (sg s m + sg t n) * (2 ^ LL k : Nat) := by
    rw [Int.add_mul, signed_V s a d _ (Nat.min_le_left ..), signed_V t b e _ (Nat.min_le_right ..), h2, h4, Int.add_mul]
    unfold sg
    cases s <;> cases t <;> simp [Int.neg_mul]
  generalize signed s a (d - min d e) + signed t b (e - min d e) = T at *
  generalize sg s m + sg t n = Z at *
  have p1 : (0 : Int) < (2 ^ min d e : Nat) := by have := Nat.two_pow_pos (min d e); omega
  have p2 : (0 : Int) < (2 ^ LL k : Nat) := by have := Nat.two_pow_pos (LL k); omega
  have z0 : T = 0 ↔ Z = 0 := by
    constructor
    · intro e0; rw [e0, Int.zero_mul] at key; exact (Int.mul_eq_zero.1 key.symm).resolve_right (by omega)
    · intro e0; rw [e0, Int.zero_mul] at key; exact (Int.mul_eq_zero.1 key).resolve_right (by omega)
  have zn : T < 0 ↔ Z < 0 := by
    have q1 : T * (2 ^ min d e : Nat) < 0 * ((2 ^ min d e : Nat) : Int) ↔ T < 0 := Int.mul_lt_mul_right p1
    have q2 : Z * (2 ^ LL k : Nat) < 0 * ((2 ^ LL k : Nat) : Int) ↔ Z < 0 := Int.mul_lt_mul_right p2
    rw [← q1, ← q2, key, Int.zero_mul, Int.zero_mul]
  have hs : (if T = 0 then s && t else decide (T < 0)) = sgn s t Z := by
    unfold sgn
    by_cases h0 : T = 0
    · rw [if_pos h0, if_pos (z0.1 h0)]
    · rw [if_neg h0, if_neg (fun h1 => h0 (z0.2 h1))]
      by_cases h3 : T < 0
      · rw [decide_eq_true h3, decide_eq_true (zn.1 h3)]
      · rw [decide_eq_false h3, decide_eq_false (fun h1 => h3 (zn.2 h1))]
  show some (k.format.nearest (if T = 0 then s && t else decide (T < 0)) T.natAbs (k.format.leastPlace + ((min d e : Nat) : Int))) = _
  rw [hs, near_val k _ (b := Z.natAbs) (LL k) (by omega) ?_ h]
  rw [show (k.format.leastPlace + ((min d e : Nat) : Int) + (LL k : Int)).toNat = min d e by omega]
  have := congrArg Int.natAbs key
  rwa [Int.natAbs_mul, Int.natAbs_mul, Int.natAbs_natCast, Int.natAbs_natCast] at this

theorem add_N (k : FloatKind) {s t : Bool} {m n : Nat} (hm : m.log2 ≤ k.format.fractionBits) (hn : n.log2 ≤ k.format.fractionBits) (h : (sg s m + sg t n).natAbs.log2 ≤ k.format.fractionBits) :
    floatBits .add k (N k s m) (N k t n) = some (N k (sgn s t (sg s m + sg t n)) (sg s m + sg t n).natAbs) := by
  obtain ⟨a, d, h1, h2, _⟩ := read_N k s m hm
  obtain ⟨b, e, h3, h4, _⟩ := read_N k t n hn
  show ((k.format.read (N k s m)).sum (k.format.read (N k t n))).map k.format.write = _
  rw [h1, h3]
  exact sum_N k h2 h4 h
theorem sub_N (k : FloatKind) {s t : Bool} {m n : Nat} (hm : m.log2 ≤ k.format.fractionBits) (hn : n.log2 ≤ k.format.fractionBits) (h : (sg s m + sg (!t) n).natAbs.log2 ≤ k.format.fractionBits) :
    floatBits .sub k (N k s m) (N k t n) = some (N k (sgn s (!t) (sg s m + sg (!t) n)) (sg s m + sg (!t) n).natAbs) := by
  obtain ⟨a, d, h1, h2, _⟩ := read_N k s m hm
  obtain ⟨b, e, h3, h4, _⟩ := read_N k t n hn
  show ((k.format.read (N k s m)).sum (k.format.read (N k t n)).opposite).map k.format.write = _
  rw [h1, h3]
  exact sum_N k h2 h4 h

/-- where nothing is left over -/
theorem quo_N (k : FloatKind) {s t : Bool} {m n : Nat} (hm : (m * n).log2 ≤ k.format.fractionBits) (hn : n.log2 ≤ k.format.fractionBits) (hml : m.log2 ≤ k.format.fractionBits) (hn0 : n ≠ 0) :
    floatBits .quo k (N k s (m * n)) (N k t n) = some (N k (s ^^ t) m) := by
  have hlp := LL_eq k
  obtain ⟨a, d, h1, h2, _⟩ := read_N k s (m * n) hm
  obtain ⟨b, e, h3, h4, _⟩ := read_N k t n hn
  show ((k.format.read (N k s (m * n))).quotient (k.format.fractionBits + 2) (k.format.read (N k t n))).map k.format.write = _
  rw [h1, h3]
  unfold Datum.quotient
  dsimp only
  have hb0 : b ≠ 0 := by
    intro e0
    rw [e0, Nat.zero_mul] at h4
    rcases Nat.mul_eq_zero.1 h4.symm with h5 | h5
    · exact hn0 h5
    · exact absurd h5 (Nat.ne_of_gt (Nat.two_pow_pos _))
  rw [if_neg hb0]
  have hab : a * 2 ^ d = m * b * 2 ^ e := by rw [h2, Nat.mul_assoc, Nat.mul_assoc, h4]
  generalize hmore : k.format.fractionBits + 2 + b.log2 - a.log2 = more
  have hdvd : ∃ c, a <<< more = b * c ∧ c * 2 ^ d = m * 2 ^ (e + more) := by
    have fin : ∀ c, a * 2 ^ more = b * c → c * 2 ^ d = m * 2 ^ (e + more) := by
      intro c hc
      refine Nat.eq_of_mul_eq_mul_left (Nat.pos_of_ne_zero hb0) ?_
      calc b * (c * 2 ^ d) = (b * c) * 2 ^ d := (Nat.mul_assoc ..).symm
        _ = (a * 2 ^ d) * 2 ^ more := by rw [← hc]; ac_rfl
        _ = b * (m * 2 ^ (e + more)) := by rw [hab, Nat.pow_add]; ac_rfl
    rw [Nat.shiftLeft_eq]
    by_cases hm0 : m = 0
    · have ha0 : a = 0 := by
        rw [hm0, Nat.zero_mul, Nat.zero_mul] at hab
        exact (Nat.mul_eq_zero.1 hab).resolve_right (Nat.ne_of_gt (Nat.two_pow_pos _))
      exact ⟨0, by rw [ha0, Nat.zero_mul, Nat.mul_zero], fin 0 (by rw [ha0, Nat.zero_mul, Nat.mul_zero])⟩
    · by_cases hde : d ≤ e
      · obtain ⟨j, rfl⟩ := Nat.exists_eq_add_of_le hde
        have ea : a = m * b * 2 ^ j := by
          rw [Nat.pow_add, ← Nat.mul_assoc, Nat.mul_right_comm] at hab
          exact Nat.eq_of_mul_eq_mul_right (Nat.two_pow_pos d) hab
        have hc : a * 2 ^ more = b * (m * 2 ^ j * 2 ^ more) := by rw [ea]; ac_rfl
        exact ⟨_, hc, fin _ hc⟩
      · obtain ⟨j, hj⟩ : ∃ j, d = e + j := ⟨d - e, by omega⟩
        have ea : a * 2 ^ j = m * b := by
          rw [hj, Nat.pow_add, Nat.mul_comm (2 ^ e), ← Nat.mul_assoc] at hab
          exact Nat.eq_of_mul_eq_mul_right (Nat.two_pow_pos e) hab
        have ha0 : a ≠ 0 := by
          intro e0
          rw [e0, Nat.zero_mul] at ea
          rcases Nat.mul_eq_zero.1 ea.symm with h5 | h5
          · exact hm0 h5
          · exact hb0 h5
        have hjm : j ≤ more := by
          have l1 : a.log2 + j ≤ m.log2 + 1 + (b.log2 + 1) := by
            have g1 := Nat.log2_self_le ha0
            have g2 : m < 2 ^ (m.log2 + 1) := Nat.lt_log2_self
            have g3 : b < 2 ^ (b.log2 + 1) := Nat.lt_log2_self
            have g4 : 2 ^ (a.log2 + j) ≤ m * b := by rw [Nat.pow_add, ← ea]; exact Nat.mul_le_mul_right _ g1
            have g5 : m * b < 2 ^ (m.log2 + 1 + (b.log2 + 1)) := by
              rw [Nat.pow_add]
              exact Nat.lt_of_le_of_lt (Nat.mul_le_mul_right _ (Nat.le_of_lt g2)) (Nat.mul_lt_mul_of_pos_left g3 (Nat.two_pow_pos _))
            have g6 := (Nat.pow_lt_pow_iff_right (a := 2) (by decide)).1 (Nat.lt_of_le_of_lt g4 g5)
            omega
          omega
        obtain ⟨i, hi⟩ := Nat.exists_eq_add_of_le hjm
        have hc : a * 2 ^ more = b * (m * 2 ^ i) := by rw [hi, Nat.pow_add, ← Nat.mul_assoc, ea]; ac_rfl
        exact ⟨_, hc, fin _ hc⟩
  obtain ⟨c, hc1, hc2⟩ := hdvd
  rw [hc1, Nat.mul_div_cancel_left _ (Nat.pos_of_ne_zero hb0), Nat.mul_mod_right]
  show some (k.format.nearest (s ^^ t) (2 * c + 0) (k.format.leastPlace + (d : Int) - (k.format.leastPlace + (e : Int)) - (more : Int) - 1)) = _
  rw [near_val k (s ^^ t) (b := m) (e + more + 1) (by omega) ?_ hml]
  rw [show (k.format.leastPlace + (d : Int) - (k.format.leastPlace + (e : Int)) - (more : Int) - 1 + ((e + more + 1 : Nat) : Int)).toNat = d by omega]
  calc (2 * c + 0) * 2 ^ d = 2 * (c * 2 ^ d) := by rw [Nat.add_zero, Nat.mul_assoc]
    _ = m * 2 ^ (e + more + 1) := by rw [hc2, Nat.pow_succ]; ac_rfl

theorem conv_N {k j : FloatKind} (hkj : k ≠ j) {s : Bool} {m : Nat} (hm : m.log2 ≤ k.format.fractionBits) (hj : m.log2 ≤ j.format.fractionBits) : floatToFloatBits k (N k s m) j = some (N j s m) := by
  have hlp := LL_eq k
  obtain ⟨a, d, h1, h2, _⟩ := read_N k s m hm
  have h3 : j.format.nearest s a (k.format.leastPlace + (d : Int)) = N j s m := by
    refine near_val j s (LL k) (by omega) ?_ hj
    rw [show (k.format.leastPlace + (d : Int) + (LL k : Int)).toNat = d by omega]
    exact h2
  unfold floatToFloatBits
  rw [if_neg hkj]
  have hdc : k.decode (N k s m) = .number s a (k.format.leastPlace + d) := h1
  rw [hdc]
  dsimp only
  rw [encode_number, h3, isInf_read (fin_N j s m hj)]
  rfl

theorem neg_N (k : FloatKind) (s : Bool) (m : Nat) (hm : m.log2 ≤ k.format.fractionBits) : Op.negFloat k (N k s m) = N k (!s) m := by
  have hlt : N k s m < 2 ^ k.format.width := (wf_N k s m).lt
  have hlt2 : N k (!s) m < 2 ^ k.format.width := (wf_N k (!s) m).lt
  have f1 := fin_N k s m hm
  have f2 := fin_N k (!s) m hm
  have hlp := LL_eq k
  have hr := LL_room k
  obtain ⟨v1, _⟩ := nearest_exact k s m 0 (.inr hm) (LL k) (by omega) (.inr (by omega))
  obtain ⟨v2, _⟩ := nearest_exact k (!s) m 0 (.inr hm) (LL k) (by omega) (.inr (by omega))
  have e1 : N k s m % k.format.signWeight = N k (!s) m % k.format.signWeight := V_inj (B := k.format.binade) (Nat.two_pow_pos _) (by show V _ (k.format.nearest s m 0 % _) = V _ (k.format.nearest (!s) m 0 % _); rw [v1, v2])
  have s1 : (N k s m / k.format.signWeight % 2 == 1) = s := nearest_sign k s m 0
  have s2 : (N k (!s) m / k.format.signWeight % 2 == 1) = !s := nearest_sign k (!s) m 0
  generalize N k s m = x at *
  generalize N k (!s) m = y at *
  have hw : k.format.signWeight = 2 ^ (k.format.exponentBits + k.format.fractionBits) := rfl
  have hw2 : k.format.width = k.format.exponentBits + k.format.fractionBits + 1 := by unfold Ieee.Format.width; omega
  rw [hw2] at hlt hlt2
  show x ^^^ 2 ^ (k.format.exponentBits + k.format.fractionBits) = y
  rw [hw] at e1 s1 s2
  generalize k.format.exponentBits + k.format.fractionBits = E at *
  apply Nat.eq_of_testBit_eq
  intro i
  rw [Nat.testBit_xor, Nat.testBit_two_pow]
  rcases Nat.lt_trichotomy i E with hi | hi | hi
  · rw [decide_eq_false (by omega), Bool.xor_false]
    have := congrArg (fun z => Nat.testBit z i) e1
    simp only [Nat.testBit_mod_two_pow, decide_eq_true hi, Bool.true_and] at this
    exact this
  · subst hi
    rw [decide_eq_true rfl, Bool.xor_true]
    have t1 : x.testBit i = s := by rw [← s1, Nat.testBit_eq_decide_div_mod_eq]; rfl
    have t2 : y.testBit i = !s := by rw [← s2, Nat.testBit_eq_decide_div_mod_eq]; rfl
    rw [t1, t2]
  · rw [decide_eq_false (by omega), Bool.xor_false, Nat.testBit_lt_two_pow (Nat.lt_of_lt_of_le hlt (Nat.pow_le_pow_right (by decide) (by omega))), Nat.testBit_lt_two_pow (Nat.lt_of_lt_of_le hlt2 (Nat.pow_le_pow_right (by decide) (by omega)))]

theorem cut_exact (s : Bool) (m j : Nat) : Toward.zero.cut s (m * 2 ^ j) j = m := by
  unfold Toward.cut
  dsimp only
  by_cases hm : m = 0
  · rw [hm]; simp
  · have hl : (m * 2 ^ j).log2 = m.log2 + j := log2_scale m j hm
    rw [hl, Nat.min_eq_left (by omega), Nat.shiftLeft_eq, Nat.one_mul, Nat.mul_div_cancel _ (Nat.two_pow_pos _)]
    simp

theorem int_N (k : FloatKind) (s : Bool) (m : Nat) (hm : m.log2 ≤ k.format.fractionBits) (hb : m < 9223372036854775808) : floatToIntVal k (N k s m) .i64 = some (sg s m) := by
  have hlp := LL_eq k
  obtain ⟨a, d, h1, h2, _⟩ := read_N k s m hm
  unfold floatToIntVal
  have hdc : k.decode (N k s m) = .number s a (k.format.leastPlace + d) := h1
  rw [hdc]
  have hcut : Toward.zero.cut s (a <<< (k.format.leastPlace + (d : Int)).toNat) (-(k.format.leastPlace + (d : Int))).toNat = m := by
    by_cases hd : LL k ≤ d
    · obtain ⟨j, rfl⟩ := Nat.exists_eq_add_of_le hd
      have ea : a * 2 ^ j = m := by
        rw [Nat.add_comm, Nat.pow_add, ← Nat.mul_assoc] at h2
        exact Nat.eq_of_mul_eq_mul_right (Nat.two_pow_pos _) h2
      rw [show (k.format.leastPlace + ((LL k + j : Nat) : Int)).toNat = j by omega, show (-(k.format.leastPlace + ((LL k + j : Nat) : Int))).toNat = 0 by omega, Nat.shiftLeft_eq, ea]
      have := cut_exact s m 0
      rwa [Nat.pow_zero, Nat.mul_one] at this
    · obtain ⟨j, hj⟩ : ∃ j, LL k = d + j := ⟨LL k - d, by omega⟩
      have ea : a = m * 2 ^ j := by
        rw [hj, Nat.pow_add, Nat.mul_comm (2 ^ d), ← Nat.mul_assoc] at h2
        exact Nat.eq_of_mul_eq_mul_right (Nat.two_pow_pos _) h2
      rw [show (k.format.leastPlace + (d : Int)).toNat = 0 by omega, show (-(k.format.leastPlace + (d : Int))).toNat = j by omega, Nat.shiftLeft_eq, Nat.pow_zero, Nat.mul_one, ea]
      exact cut_exact s m j
  have ht : (Datum.number s a (k.format.leastPlace + (d : Int))).toInt .zero = some (sg s m) := by
    unfold Datum.toInt Datum.integral
    dsimp only
    rw [hcut]
    unfold signed sg
    simp
  rw [ht]
  dsimp only
  rw [if_pos]
  unfold sg
  have e1 : IntKind.i64.min = -9223372036854775808 := by decide
  have e2 : IntKind.i64.max = 9223372036854775807 := by decide
  rw [e1, e2]
  split <;> omega

end Flt
end Go.Proofs.Ytnhcmloaanamnaa
