/-
  What is proved here: the law RootNumber as a walk, whatever is drawn; the square root of a number of at most 2 ^ E is at most about 2 ^ (E / 2). Conditions: words fit their kinds.
-/
import Derived.Test.YtnhcmloaanamnaaNum
import Derived.Test.YtnhcmloaanamnaaMag
namespace Go.Proofs.Ytnhcmloaanamnaa
namespace Flt
open Ieee

theorem LeP_of_log {m : Nat} {p E : Int} (h : p + m.log2 + 1 ≤ E) : LeP m p E := by
  refine ⟨p.natAbs + E.natAbs, by omega, by omega, ?_⟩
  have hm : m < 2 ^ (m.log2 + 1) := Nat.lt_log2_self
  refine Nat.le_trans (Nat.mul_le_mul_right _ (Nat.le_of_lt hm)) ?_
  rw [← Nat.pow_add]
  exact Nat.pow_le_pow_right (by decide) (by omega)

theorem rootFrom_sq (n : Nat) : ∀ todo root, root * root ≤ n → Datum.rootFrom n todo root * Datum.rootFrom n todo root ≤ n := by
  intro todo
  induction todo with
  | zero => intro root h; exact h
  | succ t ih =>
    intro root h
    unfold Datum.rootFrom
    refine ih _ ?_
    split
    · assumption
    · exact h
theorem rootFrom_ge (n : Nat) : ∀ todo root, root ≤ Datum.rootFrom n todo root := by
  intro todo
  induction todo with
  | zero => intro root; exact Nat.le_refl _
  | succ t ih =>
    intro root
    unfold Datum.rootFrom
    refine Nat.le_trans ?_ (ih _)
    split
    · exact Nat.le_add_right _ _
    · exact Nat.le_refl _
theorem rootFrom_pos {n : Nat} (hn : n ≠ 0) : 1 ≤ Datum.rootFrom n (n.log2 / 2 + 1) 0 := by
  unfold Datum.rootFrom
  refine Nat.le_trans ?_ (rootFrom_ge _ _ _)
  rw [if_pos]
  · rw [Nat.zero_add, Nat.shiftLeft_eq, Nat.one_mul]; exact Nat.two_pow_pos _
  · rw [Nat.zero_add, Nat.shiftLeft_eq, Nat.one_mul, ← Nat.pow_add]
    exact Nat.le_trans (Nat.pow_le_pow_right (by decide) (by omega)) (Nat.log2_self_le hn)

def fsqrt (a : Option Nat) : Option Nat := a.bind fun x => FloatKind.f64.format.sqrt x

theorem Bd_sqrt {a : Option Nat} {E : Int} (ha : Bd .f64 E a) (h1 : -1000 ≤ E) (h2 : E ≤ 1000) : Bd .f64 (E / 2 + 1) (fsqrt a) := by
  intro v hv
  cases a with
  | none => cases hv
  | some x =>
    obtain ⟨s, m, i, hr, hl⟩ := ha x rfl
    have h : ((FloatKind.f64.format.read x).root (FloatKind.f64.format.fractionBits + 2)).map FloatKind.f64.format.write = some v := hv
    rw [hr] at h
    unfold Datum.root at h
    dsimp only at h
    by_cases hm : m = 0
    · rw [if_pos hm] at h
      simp only [Option.map_some, Option.some.injEq] at h
      rw [← h, hm]
      exact nearest_Bd (LeP.zero _ _) (by omega) (by omega)
    · rw [if_neg hm] at h
      by_cases hs : s = true
      · rw [if_pos hs] at h; cases h
      · rw [if_neg hs] at h
        simp only [Option.map_some, Option.some.injEq] at h
        rw [← h]
        generalize hmore : 2 * (FloatKind.f64.format.fractionBits + 2) - m.log2 + ((i - ((2 * (FloatKind.f64.format.fractionBits + 2) - m.log2 : Nat) : Int)) % 2).toNat = more at *
        have heven : (i - (more : Int)) % 2 = 0 := by omega
        refine nearest_Bd (LeP_of_log ?_) (by omega) (by omega)
        have hn0 : m <<< more ≠ 0 := by
          rw [Nat.shiftLeft_eq]
          have := Nat.two_pow_pos more
          exact Nat.ne_of_gt (Nat.mul_pos (Nat.pos_of_ne_zero hm) this)
        have hw1 := rootFrom_pos hn0
        have hw2 := rootFrom_sq (m <<< more) ((m <<< more).log2 / 2 + 1) 0 (Nat.zero_le _)
        generalize Datum.rootFrom (m <<< more) ((m <<< more).log2 / 2 + 1) 0 = whole at *
        have hlog : 2 * whole.log2 ≤ m.log2 + more := by
          have a1 := Nat.log2_self_le (show whole ≠ 0 by omega)
          have a2 : 2 ^ (whole.log2 + whole.log2) ≤ whole * whole := by rw [Nat.pow_add]; exact Nat.mul_le_mul a1 a1
          have a3 : m <<< more < 2 ^ (m.log2 + 1 + more) := by
            rw [Nat.shiftLeft_eq, Nat.pow_add]
            exact Nat.mul_lt_mul_of_pos_right Nat.lt_log2_self (Nat.two_pow_pos _)
          have a4 : whole.log2 + whole.log2 < m.log2 + 1 + more := (Nat.pow_lt_pow_iff_right (by decide)).1 (Nat.lt_of_le_of_lt (Nat.le_trans a2 hw2) a3)
          omega
        have hX : (2 * whole + (whole * whole != m <<< more).toNat).log2 ≤ whole.log2 + 1 := by
          have b1 : (whole * whole != m <<< more).toNat ≤ 1 := Bool.toNat_le _
          have b2 : whole < 2 ^ (whole.log2 + 1) := Nat.lt_log2_self
          have : (2 * whole + (whole * whole != m <<< more).toNat).log2 < whole.log2 + 2 := by
            refine (Nat.log2_lt (by omega)).2 ?_
            rw [Nat.pow_succ]; omega
          omega
        have hE := (hl.log hm).1
        omega

theorem root_nan {n : Nat} {a : Datum} (h : a.isNaN = true) : a.root n = none := by cases a <;> simp_all [Datum.isNaN, Datum.root]
theorem fsqrt_can (x : Nat) : fsqrt (can .f64 x) = FloatKind.f64.format.sqrt x := by
  unfold fsqrt
  by_cases hx : nanW .f64 x = true
  · rw [can_nan hx]
    show none = ((FloatKind.f64.format.read x).root _).map _
    rw [root_nan hx]; rfl
  · rw [can_num (by simpa using hx)]; rfl

/-- a finite number, widened, is at most 2 ^ 129 -/
theorem Bd_wid {x : Nat} (h : x % FloatKind.f32.format.signWeight < FloatKind.f32.format.infRung) : Bd .f64 129 (wid (can .f32 x)) := by
  obtain ⟨r, hr, hs, _⟩ := widen_finite h
  intro v hv
  rw [can_num (nanW_of_le (Nat.le_of_lt h))] at hv
  have : wid (some x) = some r := hr
  rw [this] at hv
  cases hv
  exact Bd_word (k := .f64) (E := 129) hs (by rw [fb64]; decide) (by decide) (by rw [bi64, inf64]; decide) (by decide)

end Flt
open Flt



theorem sqrt_inf {x : Nat} (h : x % FloatKind.f64.format.signWeight = FloatKind.f64.format.infRung) : okNar (fsqrt (some x)) := by
  intro v hv
  have hv : ((FloatKind.f64.format.read x).root (FloatKind.f64.format.fractionBits + 2)).map FloatKind.f64.format.write = some v := hv
  rw [read_inf h] at hv
  cases hs : (x / FloatKind.f64.format.signWeight % 2 == 1) with
  | true => rw [hs] at hv; cases hv
  | false =>
    rw [hs] at hv
    have hv : FloatKind.f64.format.write (.infinity false) = v := Option.some.inj hv
    subst hv
    exact ⟨2139095040, by decide⟩

theorem ok_sqrt_wid (x : Nat) : okNar (fsqrt (wid (can .f32 x))) := by
  rcases three .f32 x with h | h | h
  · exact okNar_of_Bd (Bd_sqrt (Bd_wid h) (by decide) (by decide)) (by decide)
  · rw [can_num (nanW_of_le (Nat.le_of_eq h))]
    have : wid (some x) = some _ := widen_inf h
    rw [this]
    exact sqrt_inf (mod_word _ _ (inf_lt _))
  · rw [can_nan (nanW_of_lt h)]
    intro v hv; cases hv

theorem ok_root {x r s : Nat} (h1 : RowKit.Hid (can .f64 s = fsqrt (can .f64 r))) (h2 : RowKit.Hid (can .f64 r = wid (can .f32 x))) : okNar (can .f64 s) := by
  rw [h1.out, h2.out]; exact ok_sqrt_wid x




end Go.Proofs.Ytnhcmloaanamnaa
