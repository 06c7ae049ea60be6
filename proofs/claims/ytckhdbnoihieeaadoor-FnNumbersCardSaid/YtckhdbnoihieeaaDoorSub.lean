/-
  What is proved here: the laws IsSubnormal and FlushNumber as walks, whatever is drawn. Conditions: words fit their kinds.
-/
import Derived.Test.YtckhdbnoihieeaaDoorNum
import Derived.Test.YtckhdbnoihieeaaDoorExa
namespace Go.Proofs.YtckhdbnoihieeaaDoor
open Flt

theorem V_zero_iff {B w : Nat} (hB : 0 < B) : V B w = 0 ↔ w = 0 := by
  constructor
  · intro h
    rcases Nat.eq_zero_or_pos w with h0 | h0
    · exact h0
    · have := V_lt hB h0
      omega
  · rintro rfl; simp [V, hB]

theorem sV_zero (k : FloatKind) : sV k 0 = 0 := by
  rw [sV_pos (Nat.two_pow_pos _), (V_zero_iff (B := k.format.binade) (Nat.two_pow_pos _)).2 rfl]; rfl

/-- 'x == 0' -/
theorem order_zero {k : FloatKind} {x : Nat} (hn : nanW k x = false) : (k.format.order x 0 == some .eq) = decide (x % k.format.signWeight = 0) := by
  have hB : 0 < k.format.binade := Nat.two_pow_pos _
  have hb := binade_le k
  rcases three k x with h1 | h1 | h1
  · rw [order_sV h1 (by rw [Nat.zero_mod]; omega), sV_zero]
    by_cases h0 : x % k.format.signWeight = 0
    · rw [decide_eq_true h0]
      unfold sV
      rw [h0, (V_zero_iff hB).2 rfl]
      simp
    · rw [decide_eq_false h0]
      have hv : V k.format.binade (x % k.format.signWeight) ≠ 0 := fun h => h0 ((V_zero_iff hB).1 h)
      unfold sV
      split <;> simp only [compare, compareOfLessAndEq] <;> split <;> first | rfl | (split <;> first | rfl | (exfalso; omega))
  · have h2 : (k.format.order x 0) = (Ieee.Datum.infinity (x / k.format.signWeight % 2 == 1)).order (k.format.read 0) := by show (k.format.read x).order _ = _; rw [read_inf h1]
    obtain ⟨m, d, hr, _⟩ := read_V (k := k) (w := 0) (by rw [Nat.zero_mod]; omega)
    rw [h2, hr]
    rw [decide_eq_false (by omega)]
    cases (x / k.format.signWeight % 2 == 1) <;> rfl
  · rw [nanW_of_lt h1] at hn; cases hn

/-- subnormal -/
def subB (x : Nat) : Bool := decide (x % 2147483648 ≠ 0 ∧ x % 2147483648 < 8388608)

theorem and_exp (x : Nat) : (x &&& 2139095040 = 0) ↔ x / 8388608 % 256 = 0 := by
  have e1 : (x &&& 2139095040) / 8388608 = x / 8388608 % 256 := by
    have h : (x &&& 2139095040) >>> 23 = x >>> 23 &&& (2139095040 >>> 23) := Nat.shiftRight_and_distrib
    rw [Nat.shiftRight_eq_div_pow, Nat.shiftRight_eq_div_pow, Nat.shiftRight_eq_div_pow] at h
    rw [show (2:Nat) ^ 23 = 8388608 from rfl, show 2139095040 / 8388608 = 2 ^ 8 - 1 from rfl, Nat.and_two_pow_sub_one_eq_mod] at h
    exact h
  have e2 : (x &&& 2139095040) % 8388608 = 0 := by
    rw [show (8388608 : Nat) = 2 ^ 23 from rfl, Nat.and_mod_two_pow, show 2139095040 % 2 ^ 23 = 0 from rfl, Nat.and_zero]
  omega

theorem i64_and_nat (a b : Nat) (ha : a < 9223372036854775808) (hb : b < 9223372036854775808) : bits .and .i64 (a : Int) (b : Int) = ((a &&& b : Nat) : Int) := by
  have h : a &&& b ≤ a := Nat.and_le_left
  have e1 : (BitVec.ofInt 64 (a : Int)).toNat = a := by simp; omega
  have e2 : (BitVec.ofInt 64 (b : Int)).toNat = b := by simp; omega
  show IntKind.i64.wrap ((BitVec.ofInt 64 (a : Int) &&& BitVec.ofInt 64 (b : Int)).toNat : Int) = _
  rw [BitVec.toNat_and, e1, e2]
  exact IntWalk.i64_in _ ⟨by omega, by omega⟩

/-- 'bits & mask == 0' -/
theorem mask_zero {x : Nat} (hx : WF .f32 x) (hn : nanW .f32 x = false) : (bits .and .i64 (bitsV x) 2139095040 == 0) = decide (x % 2147483648 < 8388608) := by
  have hl := hx.lt32
  have e : bitsV x = (x : Int) := by unfold bitsV; rw [if_neg (by simp [hn])]
  rw [e, show (2139095040 : Int) = ((2139095040 : Nat) : Int) from rfl, i64_and_nat x 2139095040 (by omega) (by decide)]
  rw [Bool.eq_iff_iff]
  have := and_exp x
  simp only [beq_iff_eq, decide_eq_true_eq]
  omega

theorem mask_nan {x : Nat} (hn : nanW .f32 x = true) : (bits .and .i64 (bitsV x) 2139095040 == 0) = false := by
  have e : bitsV x = 2143289344 := by unfold bitsV; rw [if_pos hn]
  rw [e]; decide


theorem V_lt_iff {B a b : Nat} (hB : 0 < B) : V B a < V B b ↔ a < b := by
  constructor
  · intro h
    rcases Nat.lt_trichotomy a b with h1 | h1 | h1
    · exact h1
    · subst h1; exact absurd h (Nat.lt_irrefl _)
    · have := V_lt hB h1; omega
  · exact V_lt hB

theorem pow_apart (g : Nat) (hg : 29 ≤ g) : 8388608 * 2 ^ g = 4503599627370496 * 2 ^ (g - 29) := by
  obtain ⟨t, rfl⟩ := Nat.le.dest hg
  rw [Nat.pow_add, Nat.add_sub_cancel_left, ← Nat.mul_assoc]

theorem V_normal : V FloatKind.f64.format.binade 4039728865751334912 = 8388608 * 2 ^ gap := by
  rw [bi64, pow_apart gap (by rw [gap_eq]; decide)]
  unfold V
  rw [if_neg (by decide), show 4039728865751334912 % 4503599627370496 = 0 from rfl, show 4039728865751334912 / 4503599627370496 - 1 = gap - 29 by rw [gap_eq], Nat.add_zero]

theorem V32_lt {w : Nat} : V FloatKind.f32.format.binade w < 8388608 ↔ w < 8388608 := by
  have h : V FloatKind.f32.format.binade 8388608 = 8388608 := by rw [bi32]; decide
  have := V_lt_iff (B := FloatKind.f32.format.binade) (a := w) (b := 8388608) (Nat.two_pow_pos _)
  rwa [h] at this

/-- less than the least normal number, as a 64-bit one -/
theorem lt_normal {x r : Nat} (hn : nanW .f32 x = false) (h : can .f64 r = wid (can .f32 x)) : (FloatKind.f64.format.order (absW r) 4039728865751334912 == some .lt) = decide (x % 2147483648 < 8388608) := by
  have e : absW r = r % FloatKind.f64.format.signWeight := by rw [sw64]; rfl
  rw [e]
  rcases three .f32 x with h1 | h1 | h1
  · obtain ⟨g1, _, g3⟩ := widen_V h1 h
    rw [order_pos (Nat.le_of_lt g3) (by rw [inf64]; decide)]
    have key : r % FloatKind.f64.format.signWeight < 4039728865751334912 ↔ x % 2147483648 < 8388608 := by
      rw [← V_lt_iff (B := FloatKind.f64.format.binade) (Nat.two_pow_pos _), V_normal, g1, Nat.mul_lt_mul_right (Nat.two_pow_pos gap), V32_lt, sw32]
    rw [Bool.eq_iff_iff]
    rw [decide_eq_true_eq, ← key]
    simp only [compare, compareOfLessAndEq]
    by_cases hc : r % FloatKind.f64.format.signWeight < 4039728865751334912
    · rw [if_pos hc]; simp [hc]
    · rw [if_neg hc]
      refine ⟨fun h => ?_, fun h => absurd h hc⟩
      split at h <;> cases h
  · have hr : wid (some x) = some _ := widen_inf h1
    rw [can_num hn, hr] at h
    obtain ⟨_, rfl⟩ := can_eq_some h
    rw [mod_word _ _ (inf_lt _), order_pos (Nat.le_refl _) (by rw [inf64]; decide)]
    rw [inf32, sw32] at h1
    rw [decide_eq_false (by omega), inf64]
    rfl
  · rw [nanW_of_lt h1] at hn; cases hn

theorem implSub (x : Nat) (w : World) :
    Calls Tryd.prog 22 #[.float .f32 x] w fun e w' => e = .returned (.bool (subB x)) ∧ ∃ n, w' = w.drewN n := by
  cases hn : nanW .f32 x with
  | true =>
    have h1 : (FloatKind.f32.format.order x 0 != some .eq) = true := by rw [show FloatKind.f32.format.order x 0 = none from order_nan_left hn]; rfl
    have X := Lib.hid hn
    clear hn
    go_enter Tryd.func22, Tryd.ntmps22
    go_wp2_with (first | ((with_reducible refine upon_wid ?_ ?_ ?_); rotate_left 2; intro _ _ _ _; rotate_left 1; kernel_rfl; kernel_rfl) | (go_at_call 51; refine (abs_any _ (by assumption) _).mono ?_; rintro e w' ⟨rfl, rfl⟩))
    rename_i r n _ e
    go_ret
    refine ⟨?_, _, rfl⟩
    have hr : nanW .f64 (absW r) = true := by
      rw [nanW_iff, show absW r = r % FloatKind.f64.format.signWeight by rw [sw64]; rfl, Nat.mod_mod, ← nanW_iff, wid_none e.out]; exact X.out
    have h3 : subB x = false := by
      have := (nanW_iff .f32 x).1 X.out
      rw [inf32, sw32] at this
      unfold subB; simp; omega
    simp [h3, show FloatKind.f64.format.order (absW r) 4039728865751334912 = none from order_nan_left hr]
  | false =>
    have hz := order_zero hn
    rw [sw32] at hz
    by_cases h0 : x % 2147483648 = 0
    · have h1 : (FloatKind.f32.format.order x 0 != some .eq) = false := by rw [bne, hz, decide_eq_true h0]; rfl
      have h3 : subB x = false := by unfold subB; simp; omega
      clear hz hn
      have X := Lib.hid h0
      clear h0
      go_enter Tryd.func22, Tryd.ntmps22
      go_wp2
      go_ret
      exact ⟨by simp [h3], 0, rfl⟩
    · have h1 : (FloatKind.f32.format.order x 0 != some .eq) = true := by rw [bne, hz, decide_eq_false h0]; rfl
      have h3 : subB x = decide (x % 2147483648 < 8388608) := by unfold subB; simp; omega
      have X := Lib.hid hn
      clear hz hn h0
      go_enter Tryd.func22, Tryd.ntmps22
      go_wp2_with (first | ((with_reducible refine upon_wid ?_ ?_ ?_); rotate_left 2; intro _ _ _ _; rotate_left 1; kernel_rfl; kernel_rfl) | (go_at_call 51; refine (abs_any _ (by assumption) _).mono ?_; rintro e w' ⟨rfl, rfl⟩))
      rename_i r n _ e
      go_ret
      refine ⟨?_, _, rfl⟩
      simp [h3, lt_normal X.out e.out]


/-- flushed -/
def flushW (x : Nat) : Nat := if x % 2147483648 < 8388608 then x / 2147483648 * 2147483648 else x

theorem flush_nan {x : Nat} (hn : nanW .f32 x = true) : flushW x = x := by
  have := (nanW_iff .f32 x).1 hn
  rw [inf32, sw32] at this
  unfold flushW; rw [if_neg (by omega)]

theorem and_bit (x n : Nat) : x &&& 2 ^ n = x / 2 ^ n % 2 * 2 ^ n := by
  have e1 : (x &&& 2 ^ n) / 2 ^ n = x / 2 ^ n % 2 := by
    have h : (x &&& 2 ^ n) >>> n = x >>> n &&& (2 ^ n >>> n) := Nat.shiftRight_and_distrib
    rw [Nat.shiftRight_eq_div_pow, Nat.shiftRight_eq_div_pow, Nat.shiftRight_eq_div_pow, Nat.div_self (Nat.two_pow_pos n), Nat.and_one_is_mod] at h
    exact h
  have e2 : (x &&& 2 ^ n) % 2 ^ n = 0 := by
    rw [Nat.and_mod_two_pow, Nat.mod_self, Nat.and_zero]
  have := Nat.div_add_mod (x &&& 2 ^ n) (2 ^ n)
  rw [e1, e2, Nat.add_zero, Nat.mul_comm] at this
  exact this.symm

theorem and_sign (x : Nat) (hx : x < 4294967296) : x &&& 2147483648 = x / 2147483648 * 2147483648 := by
  have h := and_bit x 31
  have e : x / 2 ^ 31 % 2 = x / 2 ^ 31 := by omega
  rw [e] at h
  exact h


/-- the sign alone -/
def signW (x : Nat) : Nat := x / 9223372036854775808 * 9223372036854775808

theorem copysign_any (x : Nat) (hx : WF .f64 x) (w : World) :
    Calls Tryd.prog 44 #[.float .f64 0, .float .f64 x] w fun e w' => e = .returned (.float .f64 (signW x)) ∧ w' = w := by
  have h1 := f64bits
  have h2 := f64frombits
  go_enter Tryd.func44, Tryd.ntmps44
  go_wp2
  go_ret
  refine ⟨?_, rfl⟩
  have hl := hx.lt64
  have e0 : bits BinOp.andNot IntKind.u64 0 9223372036854775808 = 0 := by decide
  have e1 : bits BinOp.and IntKind.u64 (x : Int) 9223372036854775808 = ((signW x : Nat) : Int) := by
    have := and_bit x 63
    rw [show (2 : Nat) ^ 63 = 9223372036854775808 from rfl] at this
    rw [show (9223372036854775808 : Int) = ((9223372036854775808 : Nat) : Int) from rfl, u64_and_nat x _ (by omega) (by decide), this]
    unfold signW
    have : x / 9223372036854775808 % 2 = x / 9223372036854775808 := by omega
    rw [this]
  have hs : signW x < 18446744073709551616 := by unfold signW; omega
  have e2 : bits BinOp.or IntKind.u64 0 ((signW x : Nat) : Int) = ((signW x : Nat) : Int) := by
    have := u64_or_nat 0 (signW x) (by decide) hs
    rw [Nat.zero_or] at this
    exact this
  show Ending.returned (.float .f64 (bits BinOp.or IntKind.u64 (bits BinOp.andNot IntKind.u64 0 9223372036854775808) (bits BinOp.and IntKind.u64 (x : Int) 9223372036854775808)).toNat) = _
  rw [e0, e1, e2, Int.toNat_natCast]

theorem narrow_zero {r : Nat} (hr : r < 2 ^ 64) : okNar (can .f64 (signW r)) ∧ nar (can .f64 (signW r)) = some (r / 9223372036854775808 * 2147483648) := by
  have h : r / 9223372036854775808 = 0 ∨ r / 9223372036854775808 = 1 := by omega
  unfold signW
  rcases h with h | h <;> rw [h]
  · refine ⟨fun v hv => ?_, by decide⟩
    rw [show can .f64 (0 * 9223372036854775808) = some 0 by decide] at hv
    cases hv
    exact ⟨0, by decide⟩
  · refine ⟨fun v hv => ?_, by decide⟩
    rw [show can .f64 (1 * 9223372036854775808) = some 9223372036854775808 by decide] at hv
    cases hv
    exact ⟨2147483648, by decide⟩

theorem nonNaN_sub {x : Nat} (h : subB x = true) : x % FloatKind.f32.format.signWeight < FloatKind.f32.format.infRung := by
  unfold subB at h
  rw [inf32, sw32]
  have := of_decide_eq_true h
  omega

theorem implFlush (x : Nat) (hx : WF .f32 x) (w : World) :
    Calls Tryd.prog 15 #[.float .f32 x] w (FPost .f32 (can .f32 (flushW x)) w) := by
  cases hs : subB x with
  | true =>
    have hf := nonNaN_sub hs
    have X := Lib.hid hs
    clear hs
    have Y := Lib.hid hf
    clear hf
    go_enter Tryd.func15, Tryd.ntmps15
    go_wp2_with (first | (go_at_call 22; refine (implSub _ _).mono ?_; rintro e w' ⟨rfl, n, rfl⟩; rw [X.out]) | ((with_reducible refine upon_wid ?_ ?_ ?_); rotate_left 2; intro _ _ _ _; rotate_left 1; kernel_rfl; kernel_rfl) | (go_at_call 44; refine (copysign_any _ (by assumption) _).mono ?_; rintro e w' ⟨rfl, rfl⟩) | ((with_reducible refine upon_nar ?_ ?_ (narrow_zero (WF.lt64 (by assumption))).1 ?_); rotate_left 2; intro _ _ _ _; rotate_left 1; kernel_rfl; kernel_rfl))
    rename_i r n1 wr er g n2 wg eg
    go_ret
    refine fpost ?_ wg
    have hl := hx.lt32
    have hrl := wr.lt64
    obtain ⟨_, hsg, _⟩ := widen_V Y.out er.out
    rw [sw32, sw64] at hsg
    have hq : r / 9223372036854775808 = x / 2147483648 := by
      have a1 : r / 9223372036854775808 % 2 = r / 9223372036854775808 := by omega
      have a2 : x / 2147483648 % 2 = x / 2147483648 := by omega
      rw [a1, a2] at hsg
      rcases (show r / 9223372036854775808 = 0 ∨ r / 9223372036854775808 = 1 by omega) with h1 | h1 <;> rcases (show x / 2147483648 = 0 ∨ x / 2147483648 = 1 by omega) with h2 | h2 <;> rw [h1, h2] at hsg ⊢ <;> first | rfl | cases hsg
    have hz : flushW x = x / 2147483648 * 2147483648 := by
      have := of_decide_eq_true (show decide (x % 2147483648 ≠ 0 ∧ x % 2147483648 < 8388608) = true from X.out)
      unfold flushW; rw [if_pos this.2]
    rw [eg.out, (narrow_zero hrl).2, hq, hz]
    rcases (show x / 2147483648 = 0 ∨ x / 2147483648 = 1 by omega) with h2 | h2 <;> rw [h2] <;> decide
  | false =>
    have X := Lib.hid hs
    clear hs
    go_enter Tryd.func15, Tryd.ntmps15
    go_wp2_with (go_at_call 22; refine (implSub _ _).mono ?_; rintro e w' ⟨rfl, n, rfl⟩; rw [X.out])
    go_ret
    refine fpost ?_ hx
    have hl := hx.lt32
    have hz : flushW x = x := by
      have := of_decide_eq_false (show decide (x % 2147483648 ≠ 0 ∧ x % 2147483648 < 8388608) = false from X.out)
      unfold flushW
      split
      · omega
      · rfl
    rw [hz]


end Go.Proofs.YtckhdbnoihieeaaDoor
