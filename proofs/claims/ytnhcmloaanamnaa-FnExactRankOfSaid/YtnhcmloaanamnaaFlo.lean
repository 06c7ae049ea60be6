/-
  What is proved here: the greatest integer that is not greater than a 32-bit number without a sign, as it is cut to an integer at once, and by way of a 64-bit floor: both are the same. Conditions: the number is below 2 ^ 23. Own text; no dump.
-/
import Derived.Test.YtnhcmloaanamnaaInt
import Derived.Test.YtnhcmloaanamnaaExa
namespace Go.Proofs.Ytnhcmloaanamnaa
namespace Flt
open Ieee

theorem cut_floor {way : Toward} (hw : way = .zero ∨ way = .down) (n d : Nat) : way.cut false n d = n / 2 ^ d := by
  have key : n / (1 <<< min d (n.log2 + 2)) = n / 2 ^ d := by
    rw [Nat.shiftLeft_eq, Nat.one_mul]
    by_cases h : d ≤ n.log2 + 2
    · rw [Nat.min_eq_left h]
    · rw [Nat.min_eq_right (by omega)]
      have hn : n < 2 ^ (n.log2 + 1) := Nat.lt_log2_self
      rw [Nat.div_eq_of_lt (Nat.lt_of_lt_of_le hn (Nat.pow_le_pow_right (by decide) (by omega))), Nat.div_eq_of_lt (Nat.lt_of_lt_of_le hn (Nat.pow_le_pow_right (by decide) (by omega)))]
  unfold Toward.cut
  dsimp only
  rw [key]
  rcases hw with rfl | rfl <;> simp

/-- whole units of a number that is told at a place from L below on -/
theorem floor_at (m d L : Nat) (p : Int) (hp : p = -(L : Int) + d) : (m <<< p.toNat) / 2 ^ (-p).toNat = m * 2 ^ d / 2 ^ L := by
  subst hp
  rw [Nat.shiftLeft_eq]
  by_cases h : L ≤ d
  · obtain ⟨j, rfl⟩ := Nat.exists_eq_add_of_le h
    rw [show (-(L : Int) + ((L + j : Nat) : Int)).toNat = j by omega, show (-(-(L : Int) + ((L + j : Nat) : Int))).toNat = 0 by omega, Nat.pow_zero, Nat.div_one, Nat.pow_add, Nat.mul_left_comm, Nat.mul_div_cancel_left _ (Nat.two_pow_pos _)]
  · obtain ⟨j, hj⟩ : ∃ j, L = d + j := ⟨L - d, by omega⟩
    subst hj
    rw [show (-((d + j : Nat) : Int) + (d : Int)).toNat = 0 by omega, show (-(-((d + j : Nat) : Int) + (d : Int))).toNat = j by omega, Nat.pow_zero, Nat.mul_one, Nat.pow_add, Nat.mul_comm m, Nat.mul_div_mul_left _ _ (Nat.two_pow_pos _)]

/-- the greatest integer that is not greater -/
def floorW (v : Nat) : Nat := FloatKind.f64.encode ((FloatKind.f64.decode v).integral .down)

def flo (x : Nat) : Nat := V FloatKind.f32.format.binade (x % FloatKind.f32.format.signWeight) / 2 ^ 149

theorem int_flo {x : Nat} (h : x % FloatKind.f32.format.signWeight < FloatKind.f32.format.infRung) (hs : (x / FloatKind.f32.format.signWeight % 2 == 1) = false) (hb : flo x < 8388608) :
    floatToIntVal .f32 x .i64 = some (flo x : Int) := by
  have hlp : FloatKind.f32.format.leastPlace = -149 := by decide
  obtain ⟨m, d, hd, hv⟩ := read_V h
  rw [hs, hlp] at hd
  have hc : Toward.zero.cut false (m <<< (-149 + (d : Int)).toNat) (-(-149 + (d : Int))).toNat = flo x := by
    rw [cut_floor (.inl rfl), floor_at m d 149 _ (by omega), hv]; rfl
  unfold floatToIntVal
  have hdc : FloatKind.f32.decode x = .number false m (-149 + (d : Int)) := hd
  rw [hdc]
  have ht : (Datum.number false m (-149 + (d : Int))).toInt .zero = some (flo x : Int) := by
    unfold Datum.toInt Datum.integral
    dsimp only
    rw [hc]
    unfold signed
    simp
  rw [ht]
  dsimp only
  rw [if_pos]
  have e1 : IntKind.i64.min = -9223372036854775808 := by decide
  have e2 : IntKind.i64.max = 9223372036854775807 := by decide
  rw [e1, e2]
  omega

theorem floor_flo {x r : Nat} (h : x % FloatKind.f32.format.signWeight < FloatKind.f32.format.infRung) (hs : (x / FloatKind.f32.format.signWeight % 2 == 1) = false) (hb : flo x < 8388608) (hr : can .f64 r = wid (can .f32 x)) :
    (∃ s m p, FloatKind.f64.format.read r = .number s m p) ∧ floatToIntVal .f64 (floorW r) .i64 = some (flo x : Int) := by
  have hlp : FloatKind.f64.format.leastPlace = -1074 := by decide
  obtain ⟨h1, h2, h3⟩ := widen_V h hr
  obtain ⟨m, d, hd, hv⟩ := read_V h3
  rw [h2, hs, hlp] at hd
  have hL : (-1074 + (d : Int)) = -((gap + 149 : Nat) : Int) + d := by rw [gap_eq]; omega
  have hc : Toward.down.cut false (m <<< (-1074 + (d : Int)).toNat) (-(-1074 + (d : Int))).toNat = flo x := by
    rw [cut_floor (.inr rfl), floor_at m d (gap + 149) _ hL, hv, h1, Nat.pow_add, Nat.mul_comm _ (2 ^ gap), Nat.mul_div_mul_left _ _ (Nat.two_pow_pos _)]; rfl
  have hw : floorW r = N .f64 false (flo x) := by
    unfold floorW
    have hdc : FloatKind.f64.decode r = .number false m (-1074 + (d : Int)) := hd
    rw [hdc]
    show FloatKind.f64.encode (Datum.number false (Toward.down.cut false (m <<< (-1074 + (d : Int)).toNat) (-(-1074 + (d : Int))).toNat) 0) = _
    rw [hc]
    rfl
  refine ⟨⟨_, _, _, hd⟩, ?_⟩
  rw [hw, int_N .f64 false (flo x) ?_ (by omega)]
  · simp [sg]
  · by_cases e : flo x = 0
    · rw [e]; decide
    · have h52 : FloatKind.f64.format.fractionBits = 52 := by decide
      have := (Nat.log2_lt e).2 (show flo x < 2 ^ 53 from Nat.lt_trans hb (by decide))
      omega

end Flt
end Go.Proofs.Ytnhcmloaanamnaa
