/-
  What is proved here: a quarter taken from a number from a quarter to 2 is exact, so that the number's word becomes less; bounds of words out of bounds of numbers. Conditions: as each theorem names. Own text; no dump.
-/
import Derived.Test.YthhimielelpcoaaSinB
namespace Go.Proofs.Ythhimielelpcoaa
namespace Flt
open Ieee

theorem cut_mulq (neg : Bool) {m d : Nat} (hd : d ≤ (m * 2 ^ d).log2 + 2) : Toward.even.cut neg (m * 2 ^ d) d = m := by
  unfold Toward.cut
  dsimp only
  rw [Nat.min_eq_left hd, Nat.shiftLeft_eq, Nat.one_mul]
  have hp : 0 < 2 ^ d := Nat.two_pow_pos _
  rw [Nat.mul_div_cancel _ hp, Nat.mul_mod_left]
  simp

theorem log2_shift {m : Nat} (hm : m ≠ 0) (j : Nat) : (m * 2 ^ j).log2 = m.log2 + j := by
  have hp : 0 < 2 ^ j := Nat.two_pow_pos _
  have h0 : m * 2 ^ j ≠ 0 := Nat.mul_ne_zero hm (by omega)
  have h1 : (m * 2 ^ j).log2 < m.log2 + j + 1 := (Nat.log2_lt h0).2 (by
    rw [show m.log2 + j + 1 = (m.log2 + 1) + j by omega, Nat.pow_add]
    exact Nat.mul_lt_mul_of_pos_right Nat.lt_log2_self hp)
  have h2 : m.log2 + j ≤ (m * 2 ^ j).log2 := (Nat.le_log2 h0).2 (by
    rw [Nat.pow_add]
    exact Nat.mul_le_mul_right _ (Nat.log2_self_le hm))
  omega

/-- a number is rounded alike, however many digits it is told with -/
theorem nearest_shift (k : FloatKind) (neg : Bool) {m j : Nat} {p : Int} (hm : m ≠ 0) (hl : m.log2 ≤ k.format.fractionBits) (hp : k.format.leastPlace ≤ p + j) :
    k.format.nearest neg (m * 2 ^ j) p = k.format.nearest neg m (p + j) := by
  have hp2 : 0 < 2 ^ j := Nat.two_pow_pos _
  have h0 : m * 2 ^ j ≠ 0 := Nat.mul_ne_zero hm (by omega)
  have hlog := log2_shift hm j
  unfold Format.nearest
  dsimp only
  rw [if_neg h0, if_neg hm, hlog]
  have e : p + ((m.log2 + j : Nat) : Int) - (k.format.fractionBits : Int) = p + (j : Int) + (m.log2 : Int) - (k.format.fractionBits : Int) := by omega
  rw [e]
  generalize hL : max (p + (j : Int) + (m.log2 : Int) - (k.format.fractionBits : Int)) k.format.leastPlace = L
  have hle : L ≤ p + j := by rw [← hL]; omega
  have hcut : Toward.even.cut neg ((m * 2 ^ j) <<< (p - L).toNat) (L - p).toNat = Toward.even.cut neg (m <<< (p + j - L).toNat) (L - (p + j)).toNat := by
    rw [show (L - (p + j)).toNat = 0 by omega, cut_zero, Nat.shiftLeft_eq, Nat.shiftLeft_eq]
    by_cases hc : L ≤ p
    · rw [show (L - p).toNat = 0 by omega, cut_zero, Nat.mul_assoc, ← Nat.pow_add]
      congr 2; omega
    · rw [show (p - L).toNat = 0 by omega, Nat.pow_zero, Nat.mul_one]
      obtain ⟨d, hd⟩ : ∃ d : Nat, (L - p).toNat = d := ⟨_, rfl⟩
      have e2 : m * 2 ^ j = m * 2 ^ (p + j - L).toNat * 2 ^ d := by rw [Nat.mul_assoc, ← Nat.pow_add]; congr 2; omega
      have hdj : d ≤ j := by omega
      rw [hd, e2]
      exact cut_mulq neg (by rw [← e2, hlog]; omega)
  rw [hcut]

theorem V_leq {B a b : Nat} (hB : 0 < B) (h : V B a ≤ V B b) : a ≤ b := by
  rcases Nat.lt_or_ge b a with h1 | h1
  · have := V_lt hB h1; omega
  · exact h1

/-- the word of a number of at most 2 ^ (N - 1023) -/
theorem word_of_Bd {v N : Nat} {E : Int} (h : Bd .f64 E (some v)) (hE : (N : Int) - 1023 = E) (hN : 1 ≤ N) : v % FloatKind.f64.format.signWeight ≤ N * FloatKind.f64.format.binade := by
  obtain ⟨s, m, p, hr, hl⟩ := h v rfl
  have hbp : 0 < FloatKind.f64.format.binade := Nat.two_pow_pos _
  have hlt : v % FloatKind.f64.format.signWeight < FloatKind.f64.format.infRung := by
    rcases Nat.lt_or_ge (v % FloatKind.f64.format.signWeight) FloatKind.f64.format.infRung with h1 | h1
    · exact h1
    · exfalso
      have hb := binade_le .f64
      unfold Format.read at hr
      dsimp only at hr
      rw [if_neg (by omega), if_neg (by omega)] at hr
      split at hr <;> cases hr
  obtain ⟨m', d', hr', hv'⟩ := read_V hlt
  rw [hr'] at hr
  injection hr with _ e1 e2
  subst e1
  refine V_leq hbp ?_
  rw [V_mul hbp N hN, ← hv']
  obtain ⟨c0, hc⟩ := hl.up
  have hlp : FloatKind.f64.format.leastPlace = -1074 := by decide
  obtain ⟨h1, h2, h3⟩ := hc (c0 + 1074) (by omega)
  rw [← e2, hlp] at h1 h3
  rw [show ((-1074 : Int) + (d' : Int) + ((c0 + 1074 : Nat) : Int)).toNat = d' + c0 by omega, show (E + ((c0 + 1074 : Nat) : Int)).toNat = (52 + (N - 1)) + c0 by omega, Nat.pow_add, Nat.pow_add _ _ c0, ← Nat.mul_assoc] at h3
  have h4 := Nat.le_of_mul_le_mul_right h3 (Nat.two_pow_pos c0)
  rw [Nat.pow_add] at h4
  rw [bi64]
  exact h4

/-- the bits of a quarter -/
def qW : Nat := 4598175219545276416
theorem qW_eq : qW = 1021 * 4503599627370496 := by decide
theorem read_qW : FloatKind.f64.format.read qW = .number false 4503599627370496 (-1074 + ((1020 : Nat) : Int)) := by decide
attribute [irreducible] qW

theorem nearest_lt (k : FloatKind) (m : Nat) (p : Int) : k.format.nearest false m p < k.format.signWeight := by
  have hi2 := inf_lt k
  unfold Format.nearest Format.word
  dsimp only
  by_cases hm : m = 0
  · rw [if_pos hm, if_neg (by decide)]
    exact Nat.two_pow_pos _
  · rw [if_neg hm, if_neg (by decide)]
    exact Nat.lt_of_le_of_lt (Nat.min_le_right ..) hi2

theorem read_mid {w B : Nat} (hB : FloatKind.f64.format.binade = B) (h0 : B ≤ w) (h1 : w < FloatKind.f64.format.infRung) : FloatKind.f64.format.read w = .number false (B + w % B) (-1074 + ((w / B - 1 : Nat) : Int)) := by
  have hs := inf_lt .f64
  have hw : w % FloatKind.f64.format.signWeight = w := Nat.mod_eq_of_lt (by omega)
  have hlp : FloatKind.f64.format.leastPlace = -1074 := by decide
  unfold Format.read
  dsimp only
  rw [hw, hB, hlp, if_neg (by omega), if_pos h1, show w / FloatKind.f64.format.signWeight = 0 from Nat.div_eq_of_lt (by omega)]
  rfl

theorem sub_read {x y i j : Nat} {m n r : Nat} (hx : FloatKind.f64.format.read x = .number false m (-1074 + ((j + i : Nat) : Int))) (hy : FloatKind.f64.format.read y = .number false n (-1074 + ((j : Nat) : Int))) (hr : m * 2 ^ i = r + n) :
    floatBits .sub .f64 x y = some (FloatKind.f64.format.nearest false r (-1074 + (j : Int))) := by
  show ((FloatKind.f64.format.read x).sum (FloatKind.f64.format.read y).opposite).map FloatKind.f64.format.write = _
  rw [hx, hy]
  simp only [Datum.opposite, Datum.sum, Option.map_some]
  have m1 : min ((-1074 : Int) + ((j + i : Nat) : Int)) (-1074 + ((j : Nat) : Int)) = -1074 + (j : Int) := by omega
  rw [m1, show ((-1074 : Int) + ((j + i : Nat) : Int) - (-1074 + (j : Int))).toNat = i by omega, show ((-1074 : Int) + ((j : Nat) : Int) - (-1074 + (j : Int))).toNat = 0 by omega]
  have ht : signed false m i + signed (!false) n 0 = (r : Int) := by
    unfold signed
    rw [Nat.shiftLeft_eq, hr]
    simp <;> omega
  rw [ht, Int.natAbs_natCast, decide_eq_false (by omega)]
  rw [show (if (r : Int) = 0 then false && !false else false) = false by split <;> rfl]
  rfl

/-- an exact difference -/
theorem near_V {n i j : Nat} (hn : n < 9007199254740992) (hj : j + i < 2000) (v : Nat) (hv : FloatKind.f64.format.nearest false (n * 2 ^ i) (-1074 + (j : Int)) = v) :
    V FloatKind.f64.format.binade (v % FloatKind.f64.format.signWeight) = n * 2 ^ (j + i) := by
  have hlp : FloatKind.f64.format.leastPlace = -1074 := by decide
  have hfb : FloatKind.f64.format.fractionBits = 52 := by decide
  have heb : 2 ^ FloatKind.f64.format.exponentBits - 1 = 2047 := by decide
  rw [← hv]
  by_cases h0 : n = 0
  · subst h0
    obtain ⟨g1, g2⟩ := nearest_exact .f64 false (0 * 2 ^ i) (-1074 + (j : Int)) (.inl (Nat.zero_mul _)) j (by rw [hlp]) (.inl (Nat.zero_mul _))
    rw [g1, Nat.zero_mul, Nat.zero_mul, Nat.zero_mul]
  · have hln : n.log2 ≤ 52 := by
      have : n.log2 < 53 := (Nat.log2_lt h0).2 (by rw [show (2 : Nat) ^ 53 = 9007199254740992 from rfl]; exact hn)
      omega
    rw [nearest_shift .f64 false h0 (by rw [hfb]; exact hln) (by rw [hlp]; omega)]
    exact (nearest_exact .f64 false n (-1074 + (j : Int) + (i : Int)) (.inr (by rw [hfb]; exact hln)) (j + i) (by rw [hlp]; omega) (.inr (by rw [hfb, heb]; omega))).1

/-- A QUARTER IS TAKEN AWAY -/
theorem quarter_step {w : Nat} (h1 : qW ≤ w) (h2 : w ≤ 1024 * 4503599627370496) : ∃ v, floatBits .sub .f64 w qW = some v ∧ v < w := by
  have hq := qW_eq
  have hB : FloatKind.f64.format.binade = 4503599627370496 := bi64
  have hbp : 0 < FloatKind.f64.format.binade := by rw [hB]; decide
  have hrw := read_mid hB (w := w) (by omega) (by rw [inf64]; omega)
  have hr0 := Nat.mod_lt w (show 0 < 4503599627370496 by decide)
  have hV : V FloatKind.f64.format.binade w = (4503599627370496 + w % 4503599627370496) * 2 ^ (w / 4503599627370496 - 1) := by
    unfold V; rw [hB, if_neg (by omega)]
  obtain ⟨j, hj⟩ : ∃ j : Nat, j = 1020 := ⟨_, rfl⟩
  have hrq := read_qW
  rw [← hj] at hrq
  obtain ⟨i, hi⟩ : ∃ i : Nat, w / 4503599627370496 - 1 = j + i := ⟨w / 4503599627370496 - 1 - j, by omega⟩
  have hi3 : i ≤ 3 := by omega
  obtain ⟨m, hm⟩ : ∃ m : Nat, 4503599627370496 + w % 4503599627370496 = m := ⟨_, rfl⟩
  rw [hm, hi] at hrw hV
  have h52 : (2 : Nat) ^ 52 = 4503599627370496 := by decide
  obtain ⟨n, hn⟩ : ∃ n : Nat, m = n + 2 ^ (52 - i) := ⟨m - 2 ^ (52 - i), by
    have : 2 ^ (52 - i) ≤ 2 ^ 52 := Nat.pow_le_pow_right (by decide) (by omega)
    omega⟩
  have hpos := Nat.two_pow_pos (52 - i)
  have hnB : n < 9007199254740992 := by omega
  have e52 : 2 ^ (52 - i) * 2 ^ i = 4503599627370496 := by rw [← Nat.pow_add, show 52 - i + i = 52 by omega]
  have hmi : m * 2 ^ i = n * 2 ^ i + 4503599627370496 := by rw [hn, Nat.add_mul, e52]
  have hsum := sub_read hrw hrq hmi
  obtain ⟨v, hv⟩ : ∃ v, FloatKind.f64.format.nearest false (n * 2 ^ i) (-1074 + (j : Int)) = v := ⟨_, rfl⟩
  have g1 := near_V hnB (by omega) v hv
  have g2 := nearest_lt .f64 (n * 2 ^ i) (-1074 + (j : Int))
  rw [hv] at hsum g2
  refine ⟨v, hsum, ?_⟩
  rw [Nat.mod_eq_of_lt g2] at g1
  have hlt : V FloatKind.f64.format.binade v < V FloatKind.f64.format.binade w := by
    rw [g1, hV, hn, Nat.add_mul]
    have : 0 < 2 ^ (52 - i) * 2 ^ (j + i) := Nat.mul_pos (Nat.two_pow_pos _) (Nat.two_pow_pos _)
    omega
  rcases Nat.lt_or_ge v w with h | h
  · exact h
  · have := V_le hbp h; omega

end Flt
open Flt Go.RowKit

/-- quarters taken away, one after another -/
def quaF (f : Option Nat) : Nat → Option Nat
  | 0 => f
  | j + 1 => fop .sub .f64 (quaF f j) (can .f64 4598175219545276416)

theorem quaF_shift (f : Option Nat) (j : Nat) : quaF f (j + 1) = quaF (fop .sub .f64 f (can .f64 4598175219545276416)) j := by
  induction j with
  | zero => rfl
  | succ j ih => show fop .sub .f64 (quaF f (j + 1)) _ = fop .sub .f64 (quaF _ j) _; rw [ih]

theorem qW_lit : qW = 4598175219545276416 := by rw [qW_eq]
theorem can_qW : can .f64 4598175219545276416 = some qW := by
  rw [← qW_lit]; exact can_num (nanW_of_le (by rw [sw64, inf64, Nat.mod_eq_of_lt (by rw [qW_lit]; decide), qW_lit]; decide))

/-- a number from a quarter on has no sign -/
theorem from_quarter {w : Nat} (hw : w < 2 ^ 64) (hs : w % FloatKind.f64.format.signWeight < FloatKind.f64.format.infRung) (h : geB (some w) (some qW) = true) : qW ≤ w ∧ w < FloatKind.f64.format.signWeight := by
  have hq := qW_lit
  have hqs : qW % FloatKind.f64.format.signWeight = qW := Nat.mod_eq_of_lt (by rw [sw64, hq]; decide)
  have h : (FloatKind.f64.format.order w qW == some .gt || FloatKind.f64.format.order w qW == some .eq) = true := h
  rw [order_sV hs (by rw [hqs, hq, inf64]; decide)] at h
  have hge : sV .f64 qW ≤ sV .f64 w := by
    rcases Int.lt_trichotomy (sV .f64 w) (sV .f64 qW) with h1 | h1 | h1
    · rw [show compare (sV .f64 w) (sV .f64 qW) = .lt by simp only [compare, compareOfLessAndEq]; rw [if_pos h1]] at h
      cases h
    · omega
    · omega
  have hqv : sV .f64 qW = V FloatKind.f64.format.binade qW := sV_pos (by rw [sw64, hq]; decide)
  have hpos : 0 < V FloatKind.f64.format.binade qW := Nat.lt_of_le_of_lt (Nat.zero_le _) (V_lt (Nat.two_pow_pos _) (show 0 < qW by rw [hq]; decide))
  have hsg : w < FloatKind.f64.format.signWeight := by
    rcases Nat.lt_or_ge w FloatKind.f64.format.signWeight with h1 | h1
    · exact h1
    · exfalso
      have hd : (w / FloatKind.f64.format.signWeight % 2 == 1) = true := by
        rw [sw64] at h1 ⊢
        have : w / 9223372036854775808 = 1 := by omega
        rw [this]; rfl
      unfold sV at hge
      rw [if_pos hd] at hge
      rw [show (if (qW / FloatKind.f64.format.signWeight % 2 == 1) = true then -(V FloatKind.f64.format.binade (qW % FloatKind.f64.format.signWeight) : Int) else V FloatKind.f64.format.binade (qW % FloatKind.f64.format.signWeight)) = sV .f64 qW from rfl, hqv] at hge
      omega
  refine ⟨?_, hsg⟩
  rw [hqv, sV_pos hsg] at hge
  exact V_leq (B := FloatKind.f64.format.binade) (Nat.two_pow_pos _) (by omega)

theorem quarters_some : ∀ (n w : Nat), w ≤ n → w < 2 ^ 64 → w % FloatKind.f64.format.signWeight ≤ 1024 * 4503599627370496 →
    ∃ K, K ≤ w ∧ (0 < K → w ≤ 1024 * 4503599627370496) ∧ (∀ j, j < K → geB (quaF (some w) j) (can .f64 4598175219545276416) = true) ∧ geB (quaF (some w) K) (can .f64 4598175219545276416) = false ∧ Bd .f64 1 (quaF (some w) K) ∧ ∃ v, quaF (some w) K = some v
  | n, w, hn, hw, hs => by
    cases hg : geB (some w) (can .f64 4598175219545276416) with
    | false =>
      refine ⟨0, Nat.zero_le _, fun h => absurd h (Nat.lt_irrefl 0), fun j hj => absurd hj (Nat.not_lt_zero _), hg, ?_, w, rfl⟩
      show Bd .f64 1 (some w)
      exact Bd_word64 (N := 1024) (by rw [bi64]; exact hs) (by decide) (by decide)
    | true =>
      have hg2 := hg
      rw [can_qW] at hg2
      obtain ⟨h1, h2⟩ := from_quarter hw (by rw [inf64]; omega) hg2
      rw [Nat.mod_eq_of_lt h2] at hs
      obtain ⟨v, hv, hlt⟩ := quarter_step h1 hs
      have hvs : v < FloatKind.f64.format.signWeight := Nat.lt_trans hlt h2
      match n, hn with
      | 0, hn => have := qW_lit; omega
      | n + 1, hn =>
        obtain ⟨K, k1, _, k2, k3, k4, k5⟩ := quarters_some n v (by omega) (by omega) (by rw [Nat.mod_eq_of_lt hvs]; omega)
        have e : fop .sub .f64 (some w) (can .f64 4598175219545276416) = some v := by rw [can_qW]; exact hv
        refine ⟨K + 1, by omega, fun _ => hs, fun j hj => ?_, by rw [quaF_shift, e]; exact k3, by rw [quaF_shift, e]; exact k4, by rw [quaF_shift, e]; exact k5⟩
        cases j with
        | zero => exact hg
        | succ j => rw [quaF_shift, e]; exact k2 j (by omega)

/-- how many quarters there are -/
theorem quarters {w : Nat} (hf : Bd .f64 1 (some w)) (hw : w < 2 ^ 64) :
    ∃ K v : Nat, K ≤ 4611686018427387904 ∧ (∀ j, j < K → geB (quaF (some w) j) (can .f64 4598175219545276416) = true) ∧ geB (quaF (some w) K) (can .f64 4598175219545276416) = false ∧ Bd .f64 1 (some v) ∧ quaF (some w) K = some v := by
  have hs := word_of_Bd (N := 1024) hf (by decide) (by decide)
  rw [bi64] at hs
  obtain ⟨K, k1, k5, k2, k3, k4, v, k6⟩ := quarters_some w w (Nat.le_refl _) hw hs
  refine ⟨K, v, ?_, k2, k3, k6 ▸ k4, k6⟩
  rcases Nat.eq_zero_or_pos K with h | h
  · omega
  · have := k5 h; omega

theorem fop_lt {op : BinOp} {a b : Option Nat} {v : Nat} (hop : op = .add ∨ op = .sub) (h : fop op .f64 a b = some v) : v < 2 ^ 64 := by
  obtain ⟨x, y, rfl, rfl, h⟩ := fop_some h
  rcases hop with rfl | rfl
  · have h : ((FloatKind.f64.format.read x).sum (FloatKind.f64.format.read y)).map FloatKind.f64.format.write = some v := h
    obtain ⟨d, _, rfl⟩ := Option.map_eq_some_iff.1 h
    exact FloatKind.f64.format.write_lt _
  · have h : ((FloatKind.f64.format.read x).sum (FloatKind.f64.format.read y).opposite).map FloatKind.f64.format.write = some v := h
    obtain ⟨d, _, rfl⟩ := Option.map_eq_some_iff.1 h
    exact FloatKind.f64.format.write_lt _

theorem frac_lt {y v : Nat} (h : fracF y = some v) : v < 2 ^ 64 := by
  unfold fracF at h
  dsimp only at h
  split at h
  · exact fop_lt (.inl rfl) h
  · exact fop_lt (.inr rfl) h

end Go.Proofs.Ythhimielelpcoaa
