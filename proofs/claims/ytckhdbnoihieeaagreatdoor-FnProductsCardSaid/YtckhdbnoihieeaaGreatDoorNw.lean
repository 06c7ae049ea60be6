/-
  What is proved here: a 32-bit number, widened and narrowed, is itself. Conditions: words fit their kinds. Own text; no dump.
-/
import Derived.Test.YtckhdbnoihieeaaGreatDoorLogA
namespace Go.Proofs.YtckhdbnoihieeaaGreatDoor
namespace Flt
open Ieee

/-- two readings of one value are written as one word -/
theorem nearest_one (s : Bool) {m n d e : Nat} (hm : m ≠ 0) (hn : n ≠ 0) (h : n * 2 ^ e = m * 2 ^ (d + 925)) (hl : m.log2 ≤ 23) :
    FloatKind.f32.format.nearest s n (-1074 + (e : Int)) = FloatKind.f32.format.nearest s m (-149 + (d : Int)) := by
  have hlp : FloatKind.f32.format.leastPlace = -149 := by decide
  have hfb : FloatKind.f32.format.fractionBits = 23 := by decide
  by_cases hle : e ≤ d + 925
  · obtain ⟨j, hj⟩ : ∃ j, d + 925 = e + j := ⟨d + 925 - e, by omega⟩
    have hnm : n = m * 2 ^ j := by
      rw [hj, Nat.pow_add, Nat.mul_comm (2 ^ e), ← Nat.mul_assoc] at h
      exact Nat.eq_of_mul_eq_mul_right (Nat.two_pow_pos e) h
    rw [hnm, nearest_scale .f32 s m j (-1074 + (e : Int)) hm (by rw [hfb]; exact hl) (by rw [hlp]; omega)]
    congr 1; omega
  · obtain ⟨j, hj⟩ : ∃ j, e = d + 925 + j := ⟨e - (d + 925), by omega⟩
    have hnm : m = n * 2 ^ j := by
      rw [hj, Nat.pow_add, Nat.mul_comm (2 ^ (d + 925)), ← Nat.mul_assoc] at h
      exact (Nat.eq_of_mul_eq_mul_right (Nat.two_pow_pos (d + 925)) h).symm
    have hln : n.log2 ≤ 23 := by
      have : n ≤ m := by rw [hnm]; exact Nat.le_mul_of_pos_right _ (Nat.two_pow_pos _)
      have h1 : n < 2 ^ 24 := Nat.lt_of_le_of_lt this ((Nat.log2_lt hm).1 (by omega))
      have := (Nat.log2_lt hn).2 h1
      omega
    rw [hnm, nearest_scale .f32 s n j (-149 + (d : Int)) hn (by rw [hfb]; exact hln) (by rw [hlp]; omega)]
    congr 1; omega

/-- what a word reads as is written as that word -/
theorem nearest_read {x : Nat} (hx : x < 2 ^ 32) (h : x % FloatKind.f32.format.signWeight < FloatKind.f32.format.infRung) {m d : Nat}
    (hd : FloatKind.f32.format.read x = .number (x / FloatKind.f32.format.signWeight % 2 == 1) m (-149 + (d : Int))) (hv : m * 2 ^ d = V FloatKind.f32.format.binade (x % FloatKind.f32.format.signWeight)) :
    FloatKind.f32.format.nearest (x / FloatKind.f32.format.signWeight % 2 == 1) m (-149 + (d : Int)) = x := by
  have hlp : FloatKind.f32.format.leastPlace = -149 := by decide
  have hfb : FloatKind.f32.format.fractionBits = 23 := by decide
  have heb : 2 ^ FloatKind.f32.format.exponentBits - 1 = 255 := by decide
  have hbnd : (d : Int) + m.log2 ≤ 276 ∧ m.log2 ≤ 23 := by
    have hdd : d ≤ 253 := by
      have hd2 := hd
      unfold Format.read at hd2
      dsimp only at hd2
      rw [hlp, bi32] at hd2
      rw [inf32] at h
      split at hd2
      · injection hd2 with _ _ e3
        omega
      · rw [if_pos (by rw [inf32]; exact h)] at hd2
        injection hd2 with _ _ e3
        have : x % FloatKind.f32.format.signWeight / 8388608 ≤ 254 := by omega
        omega
    by_cases hm0 : m = 0
    · subst hm0
      have : Nat.log2 0 = 0 := by decide
      omega
    · have h23 := read_small hd hm0
      rw [hfb] at h23
      omega
  obtain ⟨g1, g2⟩ := nearest_exact .f32 (x / FloatKind.f32.format.signWeight % 2 == 1) m (-149 + (d : Int)) (by rw [hfb]; omega) d (by rw [hlp]) (by rw [hfb, heb]; omega)
  rw [hv] at g1
  have e1 := V_inj (Nat.two_pow_pos _) g1
  have e2 := nearest_sign .f32 (x / FloatKind.f32.format.signWeight % 2 == 1) m (-149 + (d : Int))
  have hlt : FloatKind.f32.format.nearest (x / FloatKind.f32.format.signWeight % 2 == 1) m (-149 + (d : Int)) < 2 ^ 32 := FloatKind.f32.format.write_lt (.number _ m (-149 + (d : Int)))
  generalize FloatKind.f32.format.nearest (x / FloatKind.f32.format.signWeight % 2 == 1) m (-149 + (d : Int)) = y at *
  rw [sw32] at e1 e2
  have : y / 2147483648 % 2 = x / 2147483648 % 2 := by
    have a := Nat.mod_two_eq_zero_or_one (y / 2147483648)
    have b := Nat.mod_two_eq_zero_or_one (x / 2147483648)
    rcases a with a | a <;> rcases b with b | b <;> rw [a, b] at e2 <;> first | omega | exact absurd e2 (by decide)
  omega

theorem nearest_zero (s : Bool) (p q : Int) : FloatKind.f32.format.nearest s 0 p = FloatKind.f32.format.nearest s 0 q := by
  unfold Format.nearest
  rw [if_pos rfl, if_pos rfl]

theorem narrow_back {x r : Nat} (hx : x < 2 ^ 32) (h : x % FloatKind.f32.format.signWeight < FloatKind.f32.format.infRung) (hr : can .f64 r = wid (can .f32 x)) : floatToFloatBits .f64 r .f32 = some x := by
  obtain ⟨v1, v2, v3⟩ := widen_V h hr
  obtain ⟨m, d, hd, hv⟩ := read_V h
  obtain ⟨n, e, he, hw⟩ := read_V v3
  have hlp : FloatKind.f32.format.leastPlace = -149 := by decide
  have hlp64 : FloatKind.f64.format.leastPlace = -1074 := by decide
  rw [hlp] at hd
  rw [hlp64] at he
  have hback := nearest_read hx h hd hv
  have henc : FloatKind.f32.format.nearest (r / FloatKind.f64.format.signWeight % 2 == 1) n (-1074 + (e : Int)) = x := by
    rw [v2]
    by_cases hm : m = 0
    · have hn : n = 0 := by
        rw [hm, Nat.zero_mul] at hv
        rw [← hv, Nat.zero_mul] at v1
        rw [v1] at hw
        rcases Nat.mul_eq_zero.1 hw with h0 | h0
        · exact h0
        · exact absurd h0 (Nat.ne_of_gt (Nat.two_pow_pos _))
      rw [hm] at hback
      rw [hn, nearest_zero _ _ (-149 + (d : Int))]
      exact hback
    · have hn : n ≠ 0 := by
        intro h0
        rw [h0, Nat.zero_mul] at hw
        rw [← hw, ← hv] at v1
        rcases Nat.mul_eq_zero.1 v1.symm with h1 | h1
        · rcases Nat.mul_eq_zero.1 h1 with h2 | h2
          · exact hm h2
          · exact absurd h2 (Nat.ne_of_gt (Nat.two_pow_pos _))
        · exact absurd h1 (Nat.ne_of_gt (Nat.two_pow_pos _))
      have hl : m.log2 ≤ 23 := read_small hd hm
      rw [nearest_one _ hm hn (by rw [hw, v1, ← hv, gap_eq, Nat.pow_add, Nat.mul_assoc]) hl]
      exact hback
  unfold floatToFloatBits
  rw [if_neg (by decide)]
  have hdc : FloatKind.f64.decode r = .number (r / FloatKind.f64.format.signWeight % 2 == 1) n (-1074 + (e : Int)) := he
  rw [hdc]
  dsimp only
  rw [encode_number, henc, isInf_read h]
  rfl

/-- widened, whatever is drawn, and narrowed -/
theorem nar_back {x r : Nat} (hx : WF .f32 x) (hr : can .f64 r = wid (can .f32 x)) : okNar (can .f64 r) ∧ nar (can .f64 r) = can .f32 x := by
  by_cases hn : nanW .f32 x = true
  · rw [can_nan hn] at hr ⊢
    rw [hr]
    exact ⟨fun v hv => (by cases hv), rfl⟩
  · have hn' : nanW .f32 x = false := by simpa using hn
    have hle : x % FloatKind.f32.format.signWeight ≤ FloatKind.f32.format.infRung := Nat.le_of_not_lt fun hc => hn (nanW_of_lt hc)
    have hlt := hx.lt32
    have key : floatToFloatBits .f64 r .f32 = some x ∧ can .f64 r = some r := by
      rcases Nat.lt_or_eq_of_le hle with h | h
      · refine ⟨narrow_back hlt h hr, ?_⟩
        obtain ⟨q, hq, _, hqn⟩ := widen_finite h
        rw [can_num hn'] at hr
        have : wid (some x) = some q := hq
        rw [this] at hr
        obtain ⟨_, rfl⟩ := can_eq_some hr
        exact can_num hqn
      · have hw : wid (some x) = some _ := widen_inf h
        rw [can_num hn', hw] at hr
        obtain ⟨hrn, rfl⟩ := can_eq_some hr
        refine ⟨?_, can_num hrn⟩
        rw [sw32, inf32] at h
        have hs := Nat.mod_two_eq_zero_or_one (x / 2147483648)
        rcases hs with hs | hs
        · obtain rfl : x = 2139095040 := by omega
          decide
        · obtain rfl : x = 4286578688 := by omega
          decide
    rw [key.2, can_num hn']
    exact ⟨fun v hv => by cases hv; exact ⟨x, key.1⟩, key.1⟩

end Flt
end Go.Proofs.YtckhdbnoihieeaaGreatDoor
