/-
  What is proved here: contracts of the small functions on numbers that many laws call (not-a-numbers, finite ones, bits, sameness of two 64-bit numbers, absolute values), whatever is drawn. Conditions: words fit their kinds.
-/
import Derived.Test.YtnhcmloaanamnaaChecked
import Derived.Test.YtnhcmloaanamnaaFlt
import Derived.Test.YtnhcmloaanamnaaOrd
import Derived.IntWalk
import Derived.Laws.BitsAllLaws
namespace Go.Proofs.Ytnhcmloaanamnaa
open Flt

theorem wid_none {x r : Nat} (h : can .f64 r = wid (can .f32 x)) : nanW .f64 r = nanW .f32 x := by
  by_cases hx : nanW .f32 x = true
  · rw [can_nan hx] at h
    rw [hx]; exact can_eq_none h
  · have hx' : nanW .f32 x = false := by simpa using hx
    have hle : x % FloatKind.f32.format.signWeight ≤ FloatKind.f32.format.infRung := Nat.le_of_not_lt fun hc => hx (nanW_of_lt hc)
    rw [hx']
    rw [can_num hx'] at h
    rcases Nat.lt_or_eq_of_le hle with hlt | heq
    · obtain ⟨r', hr, _, _⟩ := widen_finite hlt
      have : wid (some x) = some r' := hr
      rw [this] at h
      exact (can_eq_some h).1
    · have := widen_inf heq
      have h2 : wid (some x) = some _ := this
      rw [h2] at h
      exact (can_eq_some h).1

/-- .. of two 32-bit numbers, widened -/
theorem wid_same {a b r s : Nat} (h : can .f32 a = can .f32 b) (h1 : can .f64 r = wid (can .f32 a)) (h2 : can .f64 s = wid (can .f32 b)) : can .f64 r = can .f64 s := by rw [h1, h2, h]

theorem wid_eq {x r s : Nat} (h1 : RowKit.Hid (can .f64 r = wid (can .f32 x))) (h2 : RowKit.Hid (can .f64 s = wid (can .f32 x))) : can .f64 r = can .f64 s := by rw [h1.out, h2.out]

def bitsV (x : Nat) : Int := if nanW .f32 x = true then 2143289344 else x

/-- finite -/
def finB (k : FloatKind) (x : Nat) : Bool := decide (x % k.format.signWeight < k.format.infRung)

theorem sub_self {k : FloatKind} {x : Nat} (h : x % k.format.signWeight < k.format.infRung) : floatBits .sub k x x = some 0 := by
  obtain ⟨m, e, hr, _⟩ := read_number h
  show ((k.format.read x).sum (k.format.read x).opposite).map k.format.write = some 0
  rw [hr]
  have ht : ∀ s : Bool, Ieee.signed s m 0 + Ieee.signed (!s) m 0 = 0 := by intro s; cases s <;> simp [Ieee.signed] <;> omega
  simp only [Ieee.Datum.opposite, Ieee.Datum.sum, Int.min_self, Int.sub_self, Int.toNat_zero, ht, Option.map_some, if_pos, Int.natAbs_zero]
  congr 1
  simp [Ieee.Format.write, Ieee.Format.nearest, Ieee.Format.word]

theorem sub_inf {k : FloatKind} {x : Nat} (h : x % k.format.signWeight = k.format.infRung) : floatBits .sub k x x = none := by
  show ((k.format.read x).sum (k.format.read x).opposite).map k.format.write = none
  rw [read_inf h]
  simp [Ieee.Datum.opposite, Ieee.Datum.sum]

theorem three (k : FloatKind) (x : Nat) : x % k.format.signWeight < k.format.infRung ∨ x % k.format.signWeight = k.format.infRung ∨ k.format.infRung < x % k.format.signWeight := Nat.lt_trichotomy _ _

theorem zero_eq (k : FloatKind) : k.format.order 0 0 = some .eq := order_self (nanW_of_le (by rw [Nat.zero_mod]; exact Nat.zero_le _))

/-- 'x - x == 0' -/
theorem fin_sub {k : FloatKind} {x r : Nat} (h : can k r = fop .sub k (can k x) (can k x)) : (k.format.order r 0 == some .eq) = finB k x := by
  rw [fop_can] at h
  unfold finB
  rcases three k x with h1 | h1 | h1
  · rw [sub_self h1] at h
    obtain ⟨_, rfl⟩ := can_eq_some h
    rw [zero_eq]; simp [h1]
  · rw [sub_inf h1] at h
    rw [show k.format.order r 0 = none from order_nan_left (can_eq_none h)]
    simp [h1]
  · rw [floatBits_nan_left (nanW_of_lt h1)] at h
    rw [show k.format.order r 0 = none from order_nan_left (can_eq_none h)]
    simp; omega

/-- without its sign -/
def absW (x : Nat) : Nat := x % 9223372036854775808

theorem andNot_sign (x : Nat) (hx : x < 2 ^ 64) : (bits BinOp.andNot IntKind.u64 (x : Int) 9223372036854775808).toNat = absW x := by
  rw [u64_andNot x 9223372036854775808 (by omega) (by omega) (by omega) (by omega)]
  have : (18446744073709551615 - (9223372036854775808 : Int).toNat) = 2 ^ 63 - 1 := by decide
  simp only [Int.toNat_natCast, this, Nat.and_two_pow_sub_one_eq_mod]
  rfl

/-- greater than the greatest -/
def infB (x : Nat) : Bool := FloatKind.f64.format.order (absW x) 9218868437227405311 == some .gt

theorem infB_of {x : Nat} (h : x % FloatKind.f64.format.signWeight ≤ FloatKind.f64.format.infRung) : infB x = decide (x % FloatKind.f64.format.signWeight = FloatKind.f64.format.infRung) := by
  have e : absW x = x % FloatKind.f64.format.signWeight := by rw [sw64]; rfl
  unfold infB
  rw [e, order_pos h (by rw [inf64]; decide)]
  rw [inf64] at h ⊢
  simp only [compare, compareOfLessAndEq]
  rcases Nat.lt_or_eq_of_le h with h1 | h1
  · rw [decide_eq_false (Nat.ne_of_lt h1)]
    split
    · rfl
    · rw [if_pos (by omega)]; rfl
  · rw [h1]; decide

/-- of a widened one -/
theorem infB_wid {x r : Nat} (hn : nanW .f32 x = false) (h : can .f64 r = wid (can .f32 x)) : infB r = !finB .f32 x := by
  rw [can_num hn] at h
  unfold finB
  rcases three .f32 x with h1 | h1 | h1
  · obtain ⟨r', hr, hs, hn'⟩ := widen_finite h1
    have : wid (some x) = some r' := hr
    rw [this] at h
    obtain ⟨_, rfl⟩ := can_eq_some h
    have hlt : r % FloatKind.f64.format.signWeight < FloatKind.f64.format.infRung := Nat.lt_of_le_of_lt hs (by rw [bi64, inf64]; decide)
    rw [infB_of (Nat.le_of_lt hlt)]
    simp [h1]; omega
  · have : wid (some x) = some _ := widen_inf h1
    rw [this] at h
    obtain ⟨_, rfl⟩ := can_eq_some h
    rw [infB_of (by rw [mod_word _ _ (inf_lt _)]; exact Nat.le_refl _), mod_word _ _ (inf_lt _)]
    simp [h1]
  · rw [nanW_of_lt h1] at hn; cases hn

theorem finB_nan {x : Nat} (hn : nanW .f32 x = true) : finB .f32 x = false := by
  have := (nanW_iff .f32 x).1 hn
  unfold finB; simp; omega


theorem f64bits (b : Nat) (w : World) : (callFunc 122 #[.float .f64 b]).run Try.prog w = .ok (.value (.int .u64 b)) w := by
  rw [run_callFunc_extern Try.func122 (by kernel_rfl) (by kernel_rfl) (by kernel_rfl) (e := Extern.MathFloatBits.float64bits) (by kernel_rfl)]
  rfl

theorem f64frombits (n : Int) (w : World) : (callFunc 113 #[.int .u64 n]).run Try.prog w = .ok (.value (.float .f64 n.toNat)) w := by
  rw [run_callFunc_extern Try.func113 (by kernel_rfl) (by kernel_rfl) (by kernel_rfl) (e := Extern.MathFloatBits.float64frombits) (by kernel_rfl)]
  rfl

theorem f32frombits (n : Int) (w : World) : (callFunc 112 #[.int .u32 n]).run Try.prog w = .ok (.value (.float .f32 n.toNat)) w := by
  rw [run_callFunc_extern Try.func112 (by kernel_rfl) (by kernel_rfl) (by kernel_rfl) (e := Extern.MathFloatBits.float32frombits) (by kernel_rfl)]
  rfl

/-- 'a not-a-number?' -/
theorem isNaN_any (x : Nat) (w : World) :
    Calls Try.prog 85 #[.float .f32 x] w fun e w' => e = .returned (.bool (nanW .f32 x)) ∧ ∃ n, w' = w.drewN n := by
  go_enter Try.func85, Try.ntmps85
  go_wp2_with (first | ((with_reducible refine upon_wid ?_ ?_ ?_); rotate_left 2; intro _ _ _ _; rotate_left 1; kernel_rfl; kernel_rfl) | go_in)
  rename_i r n _ h
  go_ret
  refine ⟨?_, _, rfl⟩
  simp [self_ne, wid_none h.out]


/-- 'sameFloat' of two words that differ at most in the bits of a not-a-number -/
theorem sameFloat_any (a b : Nat) (hab : can .f64 a = can .f64 b) (w : World) :
    Calls Try.prog 22 #[.float .f64 a, .float .f64 b] w fun e w' => e = .returned (.bool true) ∧ ∃ n, w' = w.drewN n := by
  cases hn : nanW .f64 a with
  | true =>
    have hn2 : nanW .f64 b = true := by rw [can_nan hn] at hab; exact can_eq_none hab.symm
    have h1 : (FloatKind.f64.format.order a a != some .eq) = true := by rw [self_ne, hn]
    have h2 : (FloatKind.f64.format.order b b != some .eq) = true := by rw [self_ne, hn2]
    clear hab hn hn2
    go_enter Try.func22, Try.ntmps22
    go_wp2
    all_goals (go_ret; exact ⟨rfl, 0, rfl⟩)
  | false =>
    obtain ⟨_, rfl⟩ := can_eq_some (hab.symm.trans (can_num hn))
    have h1 : (FloatKind.f64.format.order b b != some .eq) = false := by rw [self_ne, hn]
    have h2 : (FloatKind.f64.format.order b b == some .eq) = true := by rw [self_eq, hn]; rfl
    clear hab hn
    go_enter Try.func22, Try.ntmps22
    go_wp2_with (refine upon_bin rfl ?_; intro _ _ _ _)
    · rename_i r1 n1 _ e1 r2 n2 _ e2
      go_ret
      refine ⟨?_, _, rfl⟩
      simp [ford_can .f64 _ 0, e1.out, e2.out]
    · go_ret
      exact ⟨rfl, 0, rfl⟩

theorem specFin (x : Nat) (w : World) :
    Calls Try.prog 84 #[.float .f32 x] w fun e w' => e = .returned (.bool (finB .f32 x)) ∧ ∃ n, w' = w.drewN n := by
  go_enter Try.func84, Try.ntmps84
  go_wp2_with (refine upon_bin rfl ?_; intro _ _ _ _)
  rename_i r n _ h
  go_ret
  refine ⟨?_, _, rfl⟩
  simp [← fin_sub h.out]

theorem abs_any (x : Nat) (hx : WF .f64 x) (w : World) :
    Calls Try.prog 99 #[.float .f64 x] w fun e w' => e = .returned (.float .f64 (absW x)) ∧ w' = w := by
  have h1 := f64bits
  have h2 := f64frombits
  go_enter Try.func99, Try.ntmps99
  go_wp2
  go_ret
  refine ⟨?_, rfl⟩
  simp [andNot_sign x hx.lt64]

theorem isInf_any (x : Nat) (hx : WF .f64 x) (w : World) :
    Calls Try.prog 98 #[.float .f64 x, .int .i64 0] w fun e w' => e = .returned (.bool (infB x)) ∧ w' = w := by
  go_enter Try.func98, Try.ntmps98
  go_wp2_with (go_at_call 99; refine (abs_any _ (by assumption) _).mono ?_; rintro e w' ⟨rfl, rfl⟩)
  go_ret
  exact ⟨rfl, rfl⟩

theorem implFin (x : Nat) (w : World) :
    Calls Try.prog 81 #[.float .f32 x] w fun e w' => e = .returned (.bool (finB .f32 x)) ∧ ∃ n, w' = w.drewN n := by
  cases hn : nanW .f32 x with
  | true =>
    go_enter Try.func81, Try.ntmps81
    go_wp2_with (go_at_call 85; refine (isNaN_any _ _).mono ?_; rintro e w' ⟨rfl, n, rfl⟩)
    go_ret
    refine ⟨?_, _, rfl⟩
    rw [finB_nan hn]; rfl
  | false =>
    go_enter Try.func81, Try.ntmps81
    go_wp2_with (first | (go_at_call 85; refine (isNaN_any _ _).mono ?_; rintro e w' ⟨rfl, n, rfl⟩) | ((with_reducible refine upon_wid ?_ ?_ ?_); rotate_left 2; intro _ _ _ _; rotate_left 1; kernel_rfl; kernel_rfl) | (go_at_call 98; refine (isInf_any _ (by assumption) _).mono ?_; rintro e w' ⟨rfl, rfl⟩))
    rename_i r n2 _ h
    go_ret
    refine ⟨?_, _, rfl⟩
    simp [infB_wid hn h.out]

theorem in_any (n lo hi : Int) (w : World) :
    Calls Try.prog 43 #[.int .i64 n, .int .i64 lo, .int .i64 hi] w fun e w' => e = .returned (.bool (decide (lo ≤ n) && decide (n ≤ hi))) ∧ w' = w := by
  by_cases h1 : lo ≤ n
  · by_cases h2 : n ≤ hi
    · go_enter Try.func43, Try.ntmps43
      go_wp2
      go_ret
      exact ⟨by simp [h1, h2], rfl⟩
    · have h3 : hi < n := by omega
      go_enter Try.func43, Try.ntmps43
      go_wp2
      go_ret
      exact ⟨by simp [h2], rfl⟩
  · have h3 : n < lo := by omega
    go_enter Try.func43, Try.ntmps43
    go_wp2
    go_ret
    exact ⟨by simp [show ¬ lo ≤ n by omega], rfl⟩

end Go.Proofs.Ytnhcmloaanamnaa
