/-
  What is proved here: the law AngleTurns as a walk, whatever is drawn; the angle is at most 2 ^ 13. Conditions: words fit their kinds.
-/
import Derived.Test.YtckhdbnoihieeaaDoorAng
import Derived.BigQuiet
import Derived.Deep.QuietTactic
namespace Go.Proofs.YtckhdbnoihieeaaDoor
open Flt Go.RowKit
attribute [local go_sem] unary_negf

theorem narrow_any (x : Nat) (hok : okNar (can .f64 x)) (w : World) : Calls Tryd.prog 25 #[.float .f64 x] w (FPost .f32 (nar (can .f64 x)) w) := by
  have HO := Lib.hid hok
  clear hok
  go_enter Tryd.func25, Tryd.ntmps25
  go_wp2_with ((with_reducible refine upon_nar ?_ ?_ HO.out ?_); rotate_left 2; intro _ _ _ _; rotate_left 1; kernel_rfl; kernel_rfl)
  rename_i t n3 wt et
  go_ret
  exact fpost et.out wt

set_option maxHeartbeats 4000000 in
theorem implAngle (y x Y X : Nat) (over sx sy : Bool) (hfy : finB .f32 y = true) (hfx : finB .f32 x = true) (hY : floatToFloatBits .f32 y .f64 = some Y) (hX : floatToFloatBits .f32 x .f64 = some X) (wY : WF .f64 Y) (wX : WF .f64 X) (q1 : (FloatKind.f64.format.order (absW Y) (absW X) == some .gt) = over) (q2 : (FloatKind.f32.format.order x 0 == some .lt) = sx) (q3 : (FloatKind.f32.format.order y 0 == some .lt) = sy)
    (hz : (FloatKind.f32.format.order y 0 == some .eq) = false ∨ ((FloatKind.f32.format.order y 0 == some .eq) = true ∧ (FloatKind.f32.format.order x 0 == some .eq) = false)) (hok : okNar (angC (tanF Y X over) over sx sy)) (w : World) :
    Calls Tryd.prog 23 #[.float .f32 y, .float .f32 x] w (FPost .f32 (nar (angC (tanF Y X over) over sx sy)) w) := by
  have HFY := Lib.hid hfy
  have HFX := Lib.hid hfx
  have HY := Lib.hid hY
  have HX := Lib.hid hX
  have HO := Lib.hid hok
  clear hfy hfx hY hX hok
  cases over <;> cases sx
  · cases sy
    · rcases hz with hz | ⟨hz, hz2⟩
      all_goals
        go_enter Tryd.func23, Tryd.ntmps23
        go_wp2_with (first | ((with_reducible refine upon_wid_eq HY.out ?_ ?_ ?_); rotate_left 2; rotate_left 1; kernel_rfl; kernel_rfl) | ((with_reducible refine upon_wid_eq HX.out ?_ ?_ ?_); rotate_left 2; rotate_left 1; kernel_rfl; kernel_rfl) | (go_at_call 52; refine (implFin _ _).mono ?_; rintro e w' ⟨rfl, n, rfl⟩; (first | rw [HFY.out] | rw [HFX.out])) | (go_at_call 51; refine (abs_any2 _ (by assumption) _).mono ?_; rintro e w' ⟨rfl, rfl⟩) | ((with_reducible refine upon_bin rfl ?_); intro _ _ _ _) | (go_at_call 54; refine (angle_any _ _).mono ?_; rintro e w' ⟨g, n, rfl, rfl, hc, hg⟩))
        rename_i t nt wt et K1 hK1 K2 hK2
        refine (narrow_any _ (by rw [hc.out, et.out]; exact HO.out) _).mono ?_
        rintro e w' ⟨g2, n2, rfl, rfl, hc2, hg2⟩
        go_wp2
        go_ret
        refine fpost ?_ hg2
        rw [hc2.out, hc.out, et.out]; rfl
    · rcases hz with hz | ⟨hz, hz2⟩
      all_goals
        go_enter Tryd.func23, Tryd.ntmps23
        go_wp2_with (first | ((with_reducible refine upon_wid_eq HY.out ?_ ?_ ?_); rotate_left 2; rotate_left 1; kernel_rfl; kernel_rfl) | ((with_reducible refine upon_wid_eq HX.out ?_ ?_ ?_); rotate_left 2; rotate_left 1; kernel_rfl; kernel_rfl) | (go_at_call 52; refine (implFin _ _).mono ?_; rintro e w' ⟨rfl, n, rfl⟩; (first | rw [HFY.out] | rw [HFX.out])) | (go_at_call 51; refine (abs_any2 _ (by assumption) _).mono ?_; rintro e w' ⟨rfl, rfl⟩) | ((with_reducible refine upon_bin rfl ?_); intro _ _ _ _) | (go_at_call 54; refine (angle_any _ _).mono ?_; rintro e w' ⟨g, n, rfl, rfl, hc, hg⟩))
        rename_i t nt wt et K1 hK1 K2 hK2
        refine (narrow_any _ (by rw [can_neg, hc.out, et.out]; exact HO.out) _).mono ?_
        rintro e w' ⟨g2, n2, rfl, rfl, hc2, hg2⟩
        go_wp2
        go_ret
        refine fpost ?_ hg2
        rw [hc2.out, can_neg, hc.out, et.out]; rfl
  · cases sy
    · rcases hz with hz | ⟨hz, hz2⟩
      all_goals
        go_enter Tryd.func23, Tryd.ntmps23
        go_wp2_with (first | ((with_reducible refine upon_wid_eq HY.out ?_ ?_ ?_); rotate_left 2; rotate_left 1; kernel_rfl; kernel_rfl) | ((with_reducible refine upon_wid_eq HX.out ?_ ?_ ?_); rotate_left 2; rotate_left 1; kernel_rfl; kernel_rfl) | (go_at_call 52; refine (implFin _ _).mono ?_; rintro e w' ⟨rfl, n, rfl⟩; (first | rw [HFY.out] | rw [HFX.out])) | (go_at_call 51; refine (abs_any2 _ (by assumption) _).mono ?_; rintro e w' ⟨rfl, rfl⟩) | ((with_reducible refine upon_bin rfl ?_); intro _ _ _ _) | (go_at_call 54; refine (angle_any _ _).mono ?_; rintro e w' ⟨g, n, rfl, rfl, hc, hg⟩))
        rename_i t nt wt et c nc wc ec K1 hK1 K2 hK2
        refine (narrow_any _ (by rw [ec.out, hc.out, et.out]; exact HO.out) _).mono ?_
        rintro e w' ⟨g2, n2, rfl, rfl, hc2, hg2⟩
        go_wp2
        go_ret
        refine fpost ?_ hg2
        rw [hc2.out, ec.out, hc.out, et.out]; rfl
    · rcases hz with hz | ⟨hz, hz2⟩
      all_goals
        go_enter Tryd.func23, Tryd.ntmps23
        go_wp2_with (first | ((with_reducible refine upon_wid_eq HY.out ?_ ?_ ?_); rotate_left 2; rotate_left 1; kernel_rfl; kernel_rfl) | ((with_reducible refine upon_wid_eq HX.out ?_ ?_ ?_); rotate_left 2; rotate_left 1; kernel_rfl; kernel_rfl) | (go_at_call 52; refine (implFin _ _).mono ?_; rintro e w' ⟨rfl, n, rfl⟩; (first | rw [HFY.out] | rw [HFX.out])) | (go_at_call 51; refine (abs_any2 _ (by assumption) _).mono ?_; rintro e w' ⟨rfl, rfl⟩) | ((with_reducible refine upon_bin rfl ?_); intro _ _ _ _) | (go_at_call 54; refine (angle_any _ _).mono ?_; rintro e w' ⟨g, n, rfl, rfl, hc, hg⟩))
        rename_i t nt wt et c nc wc ec K1 hK1 K2 hK2
        refine (narrow_any _ (by rw [can_neg, ec.out, hc.out, et.out]; exact HO.out) _).mono ?_
        rintro e w' ⟨g2, n2, rfl, rfl, hc2, hg2⟩
        go_wp2
        go_ret
        refine fpost ?_ hg2
        rw [hc2.out, can_neg, ec.out, hc.out, et.out]; rfl
  · cases sy
    · rcases hz with hz | ⟨hz, hz2⟩
      all_goals
        go_enter Tryd.func23, Tryd.ntmps23
        go_wp2_with (first | ((with_reducible refine upon_wid_eq HY.out ?_ ?_ ?_); rotate_left 2; rotate_left 1; kernel_rfl; kernel_rfl) | ((with_reducible refine upon_wid_eq HX.out ?_ ?_ ?_); rotate_left 2; rotate_left 1; kernel_rfl; kernel_rfl) | (go_at_call 52; refine (implFin _ _).mono ?_; rintro e w' ⟨rfl, n, rfl⟩; (first | rw [HFY.out] | rw [HFX.out])) | (go_at_call 51; refine (abs_any2 _ (by assumption) _).mono ?_; rintro e w' ⟨rfl, rfl⟩) | ((with_reducible refine upon_bin rfl ?_); intro _ _ _ _) | (go_at_call 54; refine (angle_any _ _).mono ?_; rintro e w' ⟨g, n, rfl, rfl, hc, hg⟩))
        rename_i t nt wt et b nb wb eb K1 hK1 K2 hK2
        refine (narrow_any _ (by rw [eb.out, hc.out, et.out]; exact HO.out) _).mono ?_
        rintro e w' ⟨g2, n2, rfl, rfl, hc2, hg2⟩
        go_wp2
        go_ret
        refine fpost ?_ hg2
        rw [hc2.out, eb.out, hc.out, et.out]; rfl
    · rcases hz with hz | ⟨hz, hz2⟩
      all_goals
        go_enter Tryd.func23, Tryd.ntmps23
        go_wp2_with (first | ((with_reducible refine upon_wid_eq HY.out ?_ ?_ ?_); rotate_left 2; rotate_left 1; kernel_rfl; kernel_rfl) | ((with_reducible refine upon_wid_eq HX.out ?_ ?_ ?_); rotate_left 2; rotate_left 1; kernel_rfl; kernel_rfl) | (go_at_call 52; refine (implFin _ _).mono ?_; rintro e w' ⟨rfl, n, rfl⟩; (first | rw [HFY.out] | rw [HFX.out])) | (go_at_call 51; refine (abs_any2 _ (by assumption) _).mono ?_; rintro e w' ⟨rfl, rfl⟩) | ((with_reducible refine upon_bin rfl ?_); intro _ _ _ _) | (go_at_call 54; refine (angle_any _ _).mono ?_; rintro e w' ⟨g, n, rfl, rfl, hc, hg⟩))
        rename_i t nt wt et b nb wb eb K1 hK1 K2 hK2
        refine (narrow_any _ (by rw [can_neg, eb.out, hc.out, et.out]; exact HO.out) _).mono ?_
        rintro e w' ⟨g2, n2, rfl, rfl, hc2, hg2⟩
        go_wp2
        go_ret
        refine fpost ?_ hg2
        rw [hc2.out, can_neg, eb.out, hc.out, et.out]; rfl
  · cases sy
    · rcases hz with hz | ⟨hz, hz2⟩
      all_goals
        go_enter Tryd.func23, Tryd.ntmps23
        go_wp2_with (first | ((with_reducible refine upon_wid_eq HY.out ?_ ?_ ?_); rotate_left 2; rotate_left 1; kernel_rfl; kernel_rfl) | ((with_reducible refine upon_wid_eq HX.out ?_ ?_ ?_); rotate_left 2; rotate_left 1; kernel_rfl; kernel_rfl) | (go_at_call 52; refine (implFin _ _).mono ?_; rintro e w' ⟨rfl, n, rfl⟩; (first | rw [HFY.out] | rw [HFX.out])) | (go_at_call 51; refine (abs_any2 _ (by assumption) _).mono ?_; rintro e w' ⟨rfl, rfl⟩) | ((with_reducible refine upon_bin rfl ?_); intro _ _ _ _) | (go_at_call 54; refine (angle_any _ _).mono ?_; rintro e w' ⟨g, n, rfl, rfl, hc, hg⟩))
        rename_i t nt wt et b nb wb eb c nc wc ec K1 hK1 K2 hK2
        refine (narrow_any _ (by rw [ec.out, eb.out, hc.out, et.out]; exact HO.out) _).mono ?_
        rintro e w' ⟨g2, n2, rfl, rfl, hc2, hg2⟩
        go_wp2
        go_ret
        refine fpost ?_ hg2
        rw [hc2.out, ec.out, eb.out, hc.out, et.out]; rfl
    · rcases hz with hz | ⟨hz, hz2⟩
      all_goals
        go_enter Tryd.func23, Tryd.ntmps23
        go_wp2_with (first | ((with_reducible refine upon_wid_eq HY.out ?_ ?_ ?_); rotate_left 2; rotate_left 1; kernel_rfl; kernel_rfl) | ((with_reducible refine upon_wid_eq HX.out ?_ ?_ ?_); rotate_left 2; rotate_left 1; kernel_rfl; kernel_rfl) | (go_at_call 52; refine (implFin _ _).mono ?_; rintro e w' ⟨rfl, n, rfl⟩; (first | rw [HFY.out] | rw [HFX.out])) | (go_at_call 51; refine (abs_any2 _ (by assumption) _).mono ?_; rintro e w' ⟨rfl, rfl⟩) | ((with_reducible refine upon_bin rfl ?_); intro _ _ _ _) | (go_at_call 54; refine (angle_any _ _).mono ?_; rintro e w' ⟨g, n, rfl, rfl, hc, hg⟩))
        rename_i t nt wt et b nb wb eb c nc wc ec K1 hK1 K2 hK2
        refine (narrow_any _ (by rw [can_neg, ec.out, eb.out, hc.out, et.out]; exact HO.out) _).mono ?_
        rintro e w' ⟨g2, n2, rfl, rfl, hc2, hg2⟩
        go_wp2
        go_ret
        refine fpost ?_ hg2
        rw [hc2.out, can_neg, ec.out, eb.out, hc.out, et.out]; rfl

end Go.Proofs.YtckhdbnoihieeaaDoor
