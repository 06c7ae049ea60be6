/-
  What is proved here: the greatest and the least one of finite numbers, as Go's builtins have them and as comparisons have them: their differences are the same. Conditions: the numbers are finite. Own text; no dump.
-/
import Derived.Test.YtnhcmloaanamnaaRng
import Derived.Test.YtnhcmloaanamnaaDif
import Derived.Test.YtnhcmloaanamnaaLogA
namespace Go.Proofs.Ytnhcmloaanamnaa
open Flt Ieee
set_option linter.unusedVariables false

/-- the greater one, the lesser one, as builtins have them -/
def mx2 (x y : Nat) : Nat := match FloatKind.f32.format.order x y with | some .gt => x | some .eq => if (FloatKind.f32.decode x).neg then y else x | _ => y
def mn2 (x y : Nat) : Nat := match FloatKind.f32.format.order x y with | some .lt => x | some .eq => if (FloatKind.f32.decode x).neg then x else y | _ => y
def mxW (zs : List Nat) : Nat → Nat
  | 0 => at0 zs 0
  | k + 1 => mx2 (mxW zs k) (at0 zs k)
def mnW (zs : List Nat) : Nat → Nat
  | 0 => at0 zs 0
  | k + 1 => mn2 (mnW zs k) (at0 zs k)

def negW (x : Nat) : Bool := x / FloatKind.f32.format.signWeight % 2 == 1
theorem decode_neg {x : Nat} (h : finB .f32 x = true) : (FloatKind.f32.decode x).neg = negW x := by
  obtain ⟨m, e, hr, _⟩ := read_number (k := .f32) (w := x) (of_decide_eq_true h)
  show (FloatKind.f32.format.read x).neg = _
  rw [hr]; rfl
theorem cmp_lt {a b : Int} : compare a b = .lt ↔ a < b := by
  simp only [compare, compareOfLessAndEq]
  constructor
  · intro h
    by_cases c : a < b
    · exact c
    · rw [if_neg c] at h
      split at h <;> cases h
  · intro h; rw [if_pos h]
theorem cmp_eq {a b : Int} : compare a b = .eq ↔ a = b := by
  simp only [compare, compareOfLessAndEq]
  constructor
  · intro h
    by_cases c : a < b
    · rw [if_pos c] at h; cases h
    · rw [if_neg c] at h
      split at h
      · assumption
      · cases h
  · intro h; rw [if_neg (by omega), if_pos h]
theorem cmp_gt {a b : Int} : compare a b = .gt ↔ b < a := by
  simp only [compare, compareOfLessAndEq]
  constructor
  · intro h
    by_cases c : a < b
    · rw [if_pos c] at h; cases h
    · rw [if_neg c] at h
      split at h
      · cases h
      · omega
  · intro h; rw [if_neg (by omega), if_neg (by omega)]
theorem ord_fin {x y : Nat} (hx : finB .f32 x = true) (hy : finB .f32 y = true) : FloatKind.f32.format.order x y = some (compare (sV .f32 x) (sV .f32 y)) := order_sV (of_decide_eq_true hx) (of_decide_eq_true hy)

theorem mx2_or (x y : Nat) : mx2 x y = x ∨ mx2 x y = y := by
  unfold mx2
  split
  · exact .inl rfl
  · split
    · exact .inr rfl
    · exact .inl rfl
  · exact .inr rfl
theorem mn2_or (x y : Nat) : mn2 x y = x ∨ mn2 x y = y := by
  unfold mn2
  split
  · exact .inl rfl
  · split
    · exact .inl rfl
    · exact .inr rfl
  · exact .inr rfl
theorem mx2_sV {x y : Nat} (hx : finB .f32 x = true) (hy : finB .f32 y = true) : sV .f32 (mx2 x y) = max (sV .f32 x) (sV .f32 y) := by
  unfold mx2
  rw [ord_fin hx hy]
  rcases Int.lt_trichotomy (sV .f32 x) (sV .f32 y) with h | h | h
  · rw [cmp_lt.2 h]; dsimp only; omega
  · rw [cmp_eq.2 h]; dsimp only; split <;> omega
  · rw [cmp_gt.2 h]; dsimp only; omega
theorem mn2_sV {x y : Nat} (hx : finB .f32 x = true) (hy : finB .f32 y = true) : sV .f32 (mn2 x y) = min (sV .f32 x) (sV .f32 y) := by
  unfold mn2
  rw [ord_fin hx hy]
  rcases Int.lt_trichotomy (sV .f32 x) (sV .f32 y) with h | h | h
  · rw [cmp_lt.2 h]; dsimp only; omega
  · rw [cmp_eq.2 h]; dsimp only; split <;> omega
  · rw [cmp_gt.2 h]; dsimp only; omega
theorem great_sV {x y : Nat} (hx : finB .f32 x = true) (hy : finB .f32 y = true) : sV .f32 (greatW x y) = max (sV .f32 x) (sV .f32 y) := by
  unfold greatW
  rw [ord_fin hy hx]
  rcases Int.lt_trichotomy (sV .f32 y) (sV .f32 x) with h | h | h
  · rw [cmp_lt.2 h, if_neg (by intro c; cases c)]; omega
  · rw [cmp_eq.2 h, if_neg (by intro c; cases c)]; omega
  · rw [cmp_gt.2 h, if_pos rfl]; omega
theorem less_sV {x y : Nat} (hx : finB .f32 x = true) (hy : finB .f32 y = true) : sV .f32 (lessW x y) = min (sV .f32 x) (sV .f32 y) := by
  unfold lessW
  rw [ord_fin hy hx]
  rcases Int.lt_trichotomy (sV .f32 y) (sV .f32 x) with h | h | h
  · rw [cmp_lt.2 h, if_pos rfl]; omega
  · rw [cmp_eq.2 h, if_neg (by intro c; cases c)]; omega
  · rw [cmp_gt.2 h, if_neg (by intro c; cases c)]; omega

/-- what is known of the four of a beginning -/
structure Ends (zs : List Nat) (k : Nat) : Prop where
  f1 : finB .f32 (mxW zs k) = true
  f2 : finB .f32 (mnW zs k) = true
  f3 : finB .f32 (hiW zs k) = true
  f4 : finB .f32 (loW zs k) = true
  s1 : sV .f32 (mxW zs k) = sV .f32 (hiW zs k)
  s2 : sV .f32 (mnW zs k) = sV .f32 (loW zs k)
  le : sV .f32 (mnW zs k) ≤ sV .f32 (mxW zs k)
  z1 : sV .f32 (mxW zs k) = 0 → sV .f32 (mnW zs k) = 0 → hiW zs k = loW zs k ∧ (negW (mxW zs k) = true → negW (mnW zs k) = true)
theorem ends_at {zs : List Nat} (h : finAll zs = true) (h0 : 0 < zs.length) : ∀ k, k ≤ zs.length → Ends zs k := by
  intro k
  induction k with
  | zero =>
    intro _
    have f := finAll_at h h0
    exact ⟨f, f, f, f, rfl, rfl, Int.le_refl _, fun _ _ => ⟨rfl, id⟩⟩
  | succ k ih =>
    intro hk
    have I := ih (by omega)
    have f := finAll_at h (j := k) (by omega)
    have e1 : sV .f32 (mxW zs (k + 1)) = max (sV .f32 (mxW zs k)) (sV .f32 (at0 zs k)) := mx2_sV I.f1 f
    have e2 : sV .f32 (mnW zs (k + 1)) = min (sV .f32 (mnW zs k)) (sV .f32 (at0 zs k)) := mn2_sV I.f2 f
    have e3 : sV .f32 (hiW zs (k + 1)) = max (sV .f32 (hiW zs k)) (sV .f32 (at0 zs k)) := great_sV I.f3 f
    have e4 : sV .f32 (loW zs (k + 1)) = min (sV .f32 (loW zs k)) (sV .f32 (at0 zs k)) := less_sV I.f4 f
    have i1 := I.s1
    have i2 := I.s2
    have i3 := I.le
    refine ⟨?_, ?_, ?_, ?_, by omega, by omega, by omega, fun a b => ?_⟩
    · show finB .f32 (mx2 _ _) = true
      rcases mx2_or (mxW zs k) (at0 zs k) with e | e <;> rw [e] <;> first | exact I.f1 | exact f
    · show finB .f32 (mn2 _ _) = true
      rcases mn2_or (mnW zs k) (at0 zs k) with e | e <;> rw [e] <;> first | exact I.f2 | exact f
    · show finB .f32 (greatW _ _) = true
      unfold greatW; split <;> first | exact I.f3 | exact f
    · show finB .f32 (lessW _ _) = true
      unfold lessW; split <;> first | exact I.f4 | exact f
    · have a0 : sV .f32 (mxW zs k) = 0 := by omega
      have b0 : sV .f32 (mnW zs k) = 0 := by omega
      have c0 : sV .f32 (at0 zs k) = 0 := by omega
      obtain ⟨g1, g2⟩ := I.z1 a0 b0
      constructor
      · show greatW (hiW zs k) (at0 zs k) = lessW (loW zs k) (at0 zs k)
        unfold greatW lessW
        rw [ord_fin f I.f3, ord_fin f I.f4, cmp_eq.2 (by omega), cmp_eq.2 (by omega), if_neg (by intro c; cases c), if_neg (by intro c; cases c), g1]
      · show negW (mx2 (mxW zs k) (at0 zs k)) = true → negW (mn2 (mnW zs k) (at0 zs k)) = true
        unfold mx2 mn2
        rw [ord_fin I.f1 f, ord_fin I.f2 f, cmp_eq.2 (by omega), cmp_eq.2 (by omega)]
        dsimp only
        rw [decode_neg I.f1, decode_neg I.f2]
        intro hh
        cases hx : negW (mxW zs k)
        · rw [hx, if_neg (by decide)] at hh
          rw [hx] at hh; cases hh
        · rw [g2 hx, if_pos rfl]
          exact g2 hx

theorem read_fin {x : Nat} (h : finB .f32 x = true) : ∃ m d : Nat, FloatKind.f32.format.read x = .number (negW x) m (FloatKind.f32.format.leastPlace + d) ∧ m * 2 ^ d = V FloatKind.f32.format.binade (x % FloatKind.f32.format.signWeight) := read_V (of_decide_eq_true h)
theorem sV_def (x : Nat) : sV .f32 x = if negW x = true then -(V FloatKind.f32.format.binade (x % FloatKind.f32.format.signWeight) : Int) else V FloatKind.f32.format.binade (x % FloatKind.f32.format.signWeight) := rfl
theorem read_same {x y : Nat} (h : sV .f32 x = sV .f32 y) (h0 : sV .f32 x ≠ 0) : FloatKind.f32.format.read x = FloatKind.f32.format.read y := by
  have hB : 0 < FloatKind.f32.format.binade := Nat.two_pow_pos _
  rw [sV_def, sV_def] at h
  rw [sV_def] at h0
  have hs : negW x = negW y ∧ V FloatKind.f32.format.binade (x % FloatKind.f32.format.signWeight) = V FloatKind.f32.format.binade (y % FloatKind.f32.format.signWeight) := by
    generalize V FloatKind.f32.format.binade (x % FloatKind.f32.format.signWeight) = a at *
    generalize V FloatKind.f32.format.binade (y % FloatKind.f32.format.signWeight) = b at *
    cases hx : negW x <;> cases hy : negW y <;> rw [hx] at h h0 <;> rw [hy] at h <;> simp only [Bool.false_eq_true, if_false, if_true] at h h0
    · exact ⟨rfl, by omega⟩
    · exact ⟨by exfalso; omega, by omega⟩
    · exact ⟨by exfalso; omega, by omega⟩
    · exact ⟨rfl, by omega⟩
  have hm := V_inj hB hs.2
  have hn : (x / FloatKind.f32.format.signWeight % 2 == 1) = (y / FloatKind.f32.format.signWeight % 2 == 1) := hs.1
  unfold Format.read
  rw [hm, hn]
theorem read_zero {x : Nat} (h0 : sV .f32 x = 0) : FloatKind.f32.format.read x = .number (negW x) 0 FloatKind.f32.format.leastPlace := by
  have hB : 0 < FloatKind.f32.format.binade := Nat.two_pow_pos _
  rw [sV_def] at h0
  have hv : V FloatKind.f32.format.binade (x % FloatKind.f32.format.signWeight) = 0 := by split at h0 <;> omega
  have hz := (V_zero_iff hB).1 hv
  unfold Format.read
  rw [hz, if_pos hB]; rfl
theorem signed_ne (s : Bool) {m : Nat} (hm : m ≠ 0) (n : Nat) : signed s m n ≠ 0 := by
  have hp : 0 < m <<< n := by rw [Nat.shiftLeft_eq]; exact Nat.mul_pos (Nat.pos_of_ne_zero hm) (Nat.two_pow_pos n)
  cases s
  · show ((m <<< n : Nat) : Int) ≠ 0
    omega
  · show -((m <<< n : Nat) : Int) ≠ 0
    omega
theorem signed_zero (s : Bool) (n : Nat) : signed s 0 n = 0 := by unfold signed; cases s <;> simp
/-- a difference does not ask for the signs of zeros, but where both are -/
theorem sub_same {a a' b b' : Nat} (fa : finB .f32 a = true) (fb : finB .f32 b = true) (ha : sV .f32 a = sV .f32 a') (hb : sV .f32 b = sV .f32 b') (hz : sV .f32 a = 0 → sV .f32 b = 0 → (negW a && !negW b) = (negW a' && !negW b')) : floatBits .sub .f32 a b = floatBits .sub .f32 a' b' := by
  show ((FloatKind.f32.format.read a).sum (FloatKind.f32.format.read b).opposite).map FloatKind.f32.format.write = ((FloatKind.f32.format.read a').sum (FloatKind.f32.format.read b').opposite).map FloatKind.f32.format.write
  by_cases a0 : sV .f32 a = 0
  · by_cases b0 : sV .f32 b = 0
    · rw [read_zero a0, read_zero b0, read_zero (ha.symm.trans a0), read_zero (hb.symm.trans b0)]
      simp only [Datum.opposite, Datum.sum, signed_zero, Int.add_zero, if_true]
      rw [hz a0 b0]
    · rw [read_zero a0, read_zero (ha.symm.trans a0), ← read_same hb b0]
      obtain ⟨m, d, hr, hv⟩ := read_fin fb
      rw [hr]
      have hm : m ≠ 0 := by
        rintro rfl
        rw [Nat.zero_mul] at hv
        rw [sV_def, ← hv] at b0
        simp at b0
      simp only [Datum.opposite, Datum.sum, signed_zero, Int.zero_add]
      rw [if_neg (signed_ne _ hm _), if_neg (signed_ne _ hm _)]
  · rw [← read_same ha a0]
    by_cases b0 : sV .f32 b = 0
    · rw [read_zero b0, read_zero (hb.symm.trans b0)]
      obtain ⟨m, d, hr, hv⟩ := read_fin fa
      rw [hr]
      have hm : m ≠ 0 := by
        rintro rfl
        rw [Nat.zero_mul] at hv
        rw [sV_def, ← hv] at a0
        simp at a0
      simp only [Datum.opposite, Datum.sum, signed_zero, Int.add_zero]
      rw [if_neg (signed_ne _ hm _), if_neg (signed_ne _ hm _)]
    · rw [← read_same hb b0]

/-- THE RANGE: both ways give the same -/
theorem range_same {zs : List Nat} (h : finAll zs = true) (h0 : 0 < zs.length) : floatBits .sub .f32 (mxW zs zs.length) (mnW zs zs.length) = floatBits .sub .f32 (hiW zs zs.length) (loW zs zs.length) := by
  have E := ends_at h h0 _ (Nat.le_refl _)
  refine sub_same E.f1 E.f2 E.s1 E.s2 fun a b => ?_
  obtain ⟨g1, g2⟩ := E.z1 a b
  rw [g1]
  cases hx : negW (mxW zs zs.length)
  · cases negW (loW zs zs.length) <;> rfl
  · rw [g2 hx]
    cases negW (loW zs zs.length) <;> rfl

end Go.Proofs.Ytnhcmloaanamnaa
