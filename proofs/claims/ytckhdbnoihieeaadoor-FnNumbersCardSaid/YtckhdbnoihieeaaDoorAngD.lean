/-
  What is proved here: the law AngleTurns as a walk, whatever is drawn. Conditions: words fit their kinds.
-/
import Derived.Test.YtckhdbnoihieeaaDoorAngC
namespace Go.Proofs.YtckhdbnoihieeaaDoor
open Flt Go.RowKit




theorem implAngleNaN (y x : Nat) (h : finB .f32 y = false ∨ (finB .f32 y = true ∧ finB .f32 x = false)) (w : World) :
    Calls Tryd.prog 23 #[.float .f32 y, .float .f32 x] w (FPost .f32 none w) := by
  rcases h with h | ⟨h, h'⟩
  · have Hy := Lib.hid h
    clear h
    go_enter Tryd.func23, Tryd.ntmps23
    go_wp2_with (first | (go_at_call 52; refine (implFin _ _).mono ?_; rintro e w' ⟨rfl, n, rfl⟩; rw [Hy.out]) | (go_at_call 53; refine (nan32_any _).mono ?_; rintro e w' ⟨rfl, rfl⟩))
    go_ret
    exact fpost (by decide) ⟨by decide⟩
  · have Hy := Lib.hid h
    have Hx := Lib.hid h'
    clear h h'
    go_enter Tryd.func23, Tryd.ntmps23
    go_wp2_with (first | (go_at_call 52; refine (implFin _ _).mono ?_; rintro e w' ⟨rfl, n, rfl⟩; (first | rw [Hy.out] | rw [Hx.out])) | (go_at_call 53; refine (nan32_any _).mono ?_; rintro e w' ⟨rfl, rfl⟩))
    go_ret
    exact fpost (by decide) ⟨by decide⟩

theorem implAngleZero (y x : Nat) (hy : finB .f32 y = true) (hx : finB .f32 x = true) (q1 : FloatKind.f32.format.order x 0 = some .eq) (q2 : FloatKind.f32.format.order y 0 = some .eq) (w : World) :
    Calls Tryd.prog 23 #[.float .f32 y, .float .f32 x] w (FPost .f32 (some 0) w) := by
  have Hy := Lib.hid hy
  have Hx := Lib.hid hx
  clear hy hx
  go_enter Tryd.func23, Tryd.ntmps23
  go_wp2_with (go_at_call 52; refine (implFin _ _).mono ?_; rintro e w' ⟨rfl, n, rfl⟩; (first | rw [Hy.out] | rw [Hx.out]))
  go_ret
  exact fpost (by decide) ⟨by decide⟩

theorem absW_mod (x : Nat) : absW x % FloatKind.f64.format.signWeight = absW x ∧ absW x = x % FloatKind.f64.format.signWeight := by
  unfold absW; rw [sw64]; exact ⟨Nat.mod_mod _ _, rfl⟩

/-- the tangent is at most 1 -/
theorem Bd_tan {Y X : Nat} (hy : finB .f64 Y = true) (hx : finB .f64 X = true) (hz : ¬ (side .f64 Y = .eq ∧ side .f64 X = .eq)) :
    Bd .f64 0 (tanF Y X (FloatKind.f64.format.order (absW Y) (absW X) == some .gt)) := by
  have hy := of_decide_eq_true hy
  have hx := of_decide_eq_true hx
  obtain ⟨y1, y2⟩ := absW_mod Y
  obtain ⟨x1, x2⟩ := absW_mod X
  rw [order_pos (by omega) (by omega)]
  unfold tanF
  by_cases h : absW X < absW Y
  · have e : (some (compare (absW Y) (absW X)) == some Ordering.gt) = true := by
      simp only [compare, compareOfLessAndEq]; rw [if_neg (by omega), if_neg (by omega)]; rfl
    rw [e, if_pos rfl]
    exact Bd_quo_le (by omega) (by omega) (by omega)
  · have e : (some (compare (absW Y) (absW X)) == some Ordering.gt) = false := by
      simp only [compare, compareOfLessAndEq]
      rcases Nat.lt_or_eq_of_le (Nat.le_of_not_lt h) with h1 | h1
      · rw [if_pos h1]; rfl
      · rw [if_neg (by omega), if_pos h1]; rfl
    rw [e, if_neg (by decide)]
    have h0 : 0 < absW X := by
      rcases Nat.eq_zero_or_pos (absW X) with h0 | h0
      · exfalso; apply hz
        unfold side
        rw [if_pos (by omega), if_pos (by omega)]
        exact ⟨rfl, rfl⟩
      · exact h0
    exact Bd_quo_le (by omega) (by omega) (by omega)

theorem some_beq (a b : Ordering) : (some a == some b) = (a == b) := by cases a <;> cases b <;> rfl



end Go.Proofs.YtckhdbnoihieeaaDoor
