/-
  What is proved here: a difference of two finite 32-bit numbers is greater than 0 just if the first one is greater than the second, however small or great it is. Conditions: both are finite. Own text; no dump.
-/
import Derived.Test.YtnhcmloaanamnaaSid
import Derived.Test.YtnhcmloaanamnaaExa
namespace Go.Proofs.Ytnhcmloaanamnaa
open Flt Ieee

theorem nearest_pos (k : FloatKind) (s : Bool) {m : Nat} (hm : m ≠ 0) (c : Nat) : k.format.nearest s m (k.format.leastPlace + c) % k.format.signWeight ≠ 0 := by
  have hi : 0 < k.format.infRung := by cases k <;> decide
  have hbp : 0 < k.format.binade := Nat.two_pow_pos _
  unfold Format.nearest
  rw [if_neg hm]
  dsimp only
  rw [mod_word _ _ (Nat.lt_of_le_of_lt (Nat.min_le_right ..) (inf_lt k))]
  suffices h : 0 < (max (k.format.leastPlace + (c : Int) + m.log2 - k.format.fractionBits) k.format.leastPlace - k.format.leastPlace).toNat * k.format.binade + Toward.even.cut s (m <<< (k.format.leastPlace + (c : Int) - max (k.format.leastPlace + (c : Int) + m.log2 - k.format.fractionBits) k.format.leastPlace).toNat) (max (k.format.leastPlace + (c : Int) + m.log2 - k.format.fractionBits) k.format.leastPlace - (k.format.leastPlace + (c : Int))).toNat by omega
  by_cases hx : k.format.leastPlace + (c : Int) + m.log2 - k.format.fractionBits ≤ k.format.leastPlace
  · rw [Int.max_eq_right hx, show (k.format.leastPlace - (k.format.leastPlace + (c : Int))).toNat = 0 by omega, cut_zero, Nat.shiftLeft_eq]
    have := Nat.mul_pos (Nat.pos_of_ne_zero hm) (Nat.two_pow_pos (k.format.leastPlace + (c : Int) - k.format.leastPlace).toNat)
    omega
  · rw [Int.max_eq_left (by omega)]
    have h1 : 1 ≤ (k.format.leastPlace + (c : Int) + m.log2 - k.format.fractionBits - k.format.leastPlace).toNat := by omega
    have := Nat.mul_le_mul h1 hbp
    omega

theorem dif_read {x y : Nat} (hx : x % FloatKind.f32.format.signWeight < FloatKind.f32.format.infRung) (hy : y % FloatKind.f32.format.signWeight < FloatKind.f32.format.infRung) :
    ∃ (tot : Int) (s : Bool) (c : Nat), ((FloatKind.f32.format.read x).sum (FloatKind.f32.format.read y).opposite) = some (.number s tot.natAbs (FloatKind.f32.format.leastPlace + c)) ∧ tot * (2 ^ c : Nat) = sV .f32 x - sV .f32 y ∧ (tot ≠ 0 → s = decide (tot < 0)) := by
  obtain ⟨m, d, hr, hv⟩ := read_V hx
  obtain ⟨n, e, hs, hw⟩ := read_V hy
  rw [hr, hs]
  unfold Datum.opposite Datum.sum
  dsimp only
  have hm : min (FloatKind.f32.format.leastPlace + (d : Int)) (FloatKind.f32.format.leastPlace + (e : Int)) = FloatKind.f32.format.leastPlace + (min d e : Nat) := by omega
  rw [hm, show (FloatKind.f32.format.leastPlace + (d : Int) - (FloatKind.f32.format.leastPlace + (min d e : Nat))).toNat = d - min d e by omega, show (FloatKind.f32.format.leastPlace + (e : Int) - (FloatKind.f32.format.leastPlace + (min d e : Nat))).toNat = e - min d e by omega]
  refine ⟨_, _, min d e, rfl, ?_, fun h => if_neg h⟩
  rw [Int.add_mul, signed_V _ _ _ _ (Nat.min_le_left ..), signed_V _ _ _ _ (Nat.min_le_right ..), hv, hw]
  unfold sV
  cases (y / FloatKind.f32.format.signWeight % 2 == 1) <;> simp <;> omega

/-- THE SIGN OF A DIFFERENCE -/
theorem dif_gt {x y : Nat} (hx : finB .f32 x = true) (hy : finB .f32 y = true) : ∃ r, floatBits .sub .f32 x y = some r ∧ nanW .f32 r = false ∧ FloatKind.f32.format.order r 0 = FloatKind.f32.format.order x y := by
  have hx' : x % FloatKind.f32.format.signWeight < FloatKind.f32.format.infRung := of_decide_eq_true hx
  have hy' : y % FloatKind.f32.format.signWeight < FloatKind.f32.format.infRung := of_decide_eq_true hy
  obtain ⟨tot, s, c, h1, h2, h3⟩ := dif_read hx' hy'
  have hb : floatBits .sub .f32 x y = some (FloatKind.f32.format.nearest s tot.natAbs (FloatKind.f32.format.leastPlace + c)) := by
    show ((FloatKind.f32.format.read x).sum (FloatKind.f32.format.read y).opposite).map FloatKind.f32.format.write = _
    rw [h1]; rfl
  have hn : nanW .f32 (FloatKind.f32.format.nearest s tot.natAbs (FloatKind.f32.format.leastPlace + c)) = false := nanW_of_le (nearest_mod_le .f32 _ _ _)
  refine ⟨_, hb, hn, ?_⟩
  rw [ord0 hn, order_sV hx' hy']
  congr 1
  have hc : (0 : Int) < (2 ^ c : Nat) := by have := Nat.two_pow_pos c; omega
  by_cases h0 : tot = 0
  · have hz : FloatKind.f32.format.nearest s tot.natAbs (FloatKind.f32.format.leastPlace + c) % FloatKind.f32.format.signWeight = 0 := by
      rw [h0]
      unfold Format.nearest
      rw [if_pos (show Int.natAbs 0 = 0 from rfl), mod_word _ _ (Nat.two_pow_pos _)]
    unfold side
    rw [if_pos hz]
    rw [h0, Int.zero_mul] at h2
    have e : sV .f32 x = sV .f32 y := by omega
    rw [e]; simp [compare, compareOfLessAndEq]
  · have hz := nearest_pos .f32 s (m := tot.natAbs) (by omega) c
    unfold side
    rw [if_neg hz, nearest_sign, h3 h0]
    by_cases hl : tot < 0
    · have : tot * (2 ^ c : Nat) < 0 := Int.mul_neg_of_neg_of_pos hl hc
      rw [decide_eq_true hl, if_pos rfl]
      simp only [compare, compareOfLessAndEq]
      rw [if_pos (by omega)]
    · have : 0 < tot * (2 ^ c : Nat) := Int.mul_pos (by omega) hc
      rw [decide_eq_false hl, if_neg (by decide)]
      simp only [compare, compareOfLessAndEq]
      rw [if_neg (by omega), if_neg (by omega)]

end Go.Proofs.Ytnhcmloaanamnaa
