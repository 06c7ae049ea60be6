/-
  What is proved here: the law AngleTurns as a walk, whatever is drawn. Conditions: words fit their kinds.
-/
import Derived.Test.YthnlcckogjfipabAngC
namespace Go.Proofs.Ythnlcckogjfipab
open Flt Go.RowKit

theorem specAngleNaN (y x : Nat) (h : finB .f64 y = false ∨ (finB .f64 y = true ∧ finB .f64 x = false)) (w : World) :
    Calls Try.prog 66 #[.float .f64 y, .float .f64 x] w (FPost .f64 none w) := by
  rcases h with h | ⟨h, h'⟩
  · have Hy := Lib.hid h
    clear h
    go_enter Try.func66, Try.ntmps66
    go_wp2_with (first | ((with_reducible refine upon_self_no Hy.out ?_); intro _ _ _ _) | (go_at_call 71; refine (nan_any _).mono ?_; rintro e w' ⟨rfl, rfl⟩))
    go_ret
    exact fpost (by decide) ⟨by decide⟩
  · have Hy := Lib.hid h
    have Hx := Lib.hid h'
    clear h h'
    go_enter Try.func66, Try.ntmps66
    go_wp2_with (first | ((with_reducible refine upon_self_yes Hy.out ?_); intro _ _ _ _) | ((with_reducible refine upon_self_no Hx.out ?_); intro _ _ _ _) | (go_at_call 71; refine (nan_any _).mono ?_; rintro e w' ⟨rfl, rfl⟩))
    go_ret
    exact fpost (by decide) ⟨by decide⟩

theorem specAngleZero (y x : Nat) (hy : finB .f64 y = true) (hx : finB .f64 x = true) (q1 : FloatKind.f64.format.order x 0 = some .eq) (q2 : FloatKind.f64.format.order y 0 = some .eq) (w : World) :
    Calls Try.prog 66 #[.float .f64 y, .float .f64 x] w (FPost .f64 (can .f64 0) w) := by
  have Hy := Lib.hid hy
  have Hx := Lib.hid hx
  clear hy hx
  go_enter Try.func66, Try.ntmps66
  go_wp2_with (first | ((with_reducible refine upon_self_yes Hy.out ?_); intro _ _ _ _) | ((with_reducible refine upon_self_yes Hx.out ?_); intro _ _ _ _))
  go_ret
  exact fpost rfl ⟨by decide⟩

/-- the walk of the model over what its inner function gives -/
theorem specAngleOf (y x : Nat) (c : Option Nat) (hin : ∀ r s w, Hid (can .f64 r = wid (can .f32 y)) → Hid (can .f64 s = wid (can .f32 x)) → WF .f64 r → WF .f64 s → Calls Try.prog 66 #[.float .f64 r, .float .f64 s] w (FPost .f64 c w)) (hok : okNar c) (w : World) :
    Calls Try.prog 24 #[.float .f32 y, .float .f32 x] w (FPost .f32 (nar c) w) := by
  have HI := Lib.hid hin
  have HO := Lib.hid hok
  clear hin hok
  go_enter Try.func24, Try.ntmps24
  go_wp2_with (first | ((with_reducible refine upon_wid ?_ ?_ ?_); rotate_left 2; intro _ _ _ _; rotate_left 1; kernel_rfl; kernel_rfl) | (go_at_call 66; refine (HI.out _ _ _ (by assumption) (by assumption) (by assumption) (by assumption)).mono ?_; rintro e w' ⟨g, n, rfl, rfl, hc, hg⟩) | ((with_reducible refine upon_nar ?_ ?_ (by rw [Hid.out hc]; exact HO.out) ?_); rotate_left 2; intro _ _ _ _; rotate_left 1; kernel_rfl; kernel_rfl) | go_in)
  rename_i t n3 wt et
  go_ret
  exact fpost (by rw [et.out, hc.out]) wt

theorem implAngleNaN (y x : Nat) (h : finB .f32 y = false ∨ (finB .f32 y = true ∧ finB .f32 x = false)) (w : World) :
    Calls Try.prog 25 #[.float .f32 y, .float .f32 x] w (FPost .f32 none w) := by
  rcases h with h | ⟨h, h'⟩
  · have Hy := Lib.hid h
    clear h
    go_enter Try.func25, Try.ntmps25
    go_wp2_with (first | (go_at_call 40; refine (implFin _ _).mono ?_; rintro e w' ⟨rfl, n, rfl⟩; rw [Hy.out]) | (go_at_call 41; refine (nan32_any _).mono ?_; rintro e w' ⟨rfl, rfl⟩))
    go_ret
    exact fpost (by decide) ⟨by decide⟩
  · have Hy := Lib.hid h
    have Hx := Lib.hid h'
    clear h h'
    go_enter Try.func25, Try.ntmps25
    go_wp2_with (first | (go_at_call 40; refine (implFin _ _).mono ?_; rintro e w' ⟨rfl, n, rfl⟩; (first | rw [Hy.out] | rw [Hx.out])) | (go_at_call 41; refine (nan32_any _).mono ?_; rintro e w' ⟨rfl, rfl⟩))
    go_ret
    exact fpost (by decide) ⟨by decide⟩

theorem implAngleZero (y x : Nat) (hy : finB .f32 y = true) (hx : finB .f32 x = true) (q1 : FloatKind.f32.format.order x 0 = some .eq) (q2 : FloatKind.f32.format.order y 0 = some .eq) (w : World) :
    Calls Try.prog 25 #[.float .f32 y, .float .f32 x] w (FPost .f32 (some 0) w) := by
  have Hy := Lib.hid hy
  have Hx := Lib.hid hx
  clear hy hx
  go_enter Try.func25, Try.ntmps25
  go_wp2_with (go_at_call 40; refine (implFin _ _).mono ?_; rintro e w' ⟨rfl, n, rfl⟩; (first | rw [Hy.out] | rw [Hx.out]))
  go_ret
  exact fpost (by decide) ⟨by decide⟩

theorem absW_mod (x : Nat) : absW x % FloatKind.f64.format.signWeight = absW x ∧ absW x = x % FloatKind.f64.format.signWeight := by
  unfold absW; rw [sw64]; exact ⟨Nat.mod_mod _ _, rfl⟩

/-- the tangent is at most 1 -/
theorem Bd_tan {Y X : Nat} (hy : finB .f64 Y = true) (hx : finB .f64 X = true) (hz : ¬ (side .f64 Y = .eq ∧ side .f64 X = .eq)) :
    Bd .f64 0 (tanF Y X (FloatKind.f64.format.order (absW Y) (absW X) == some .gt)) := by
  have hy := of_decide_eq_true hy
  have hx := of_decide_eq_true hx
  obtain ⟨y1, y2⟩ := absW_mod Y
  obtain ⟨x1, x2⟩ := absW_mod X
  rw [order_pos (by omega) (by omega)]
  unfold tanF
  by_cases h : absW X < absW Y
  · have e : (some (compare (absW Y) (absW X)) == some Ordering.gt) = true := by
      simp only [compare, compareOfLessAndEq]; rw [if_neg (by omega), if_neg (by omega)]; rfl
    rw [e, if_pos rfl]
    exact Bd_quo_le (by omega) (by omega) (by omega)
  · have e : (some (compare (absW Y) (absW X)) == some Ordering.gt) = false := by
      simp only [compare, compareOfLessAndEq]
      rcases Nat.lt_or_eq_of_le (Nat.le_of_not_lt h) with h1 | h1
      · rw [if_pos h1]; rfl
      · rw [if_neg (by omega), if_pos h1]; rfl
    rw [e, if_neg (by decide)]
    have h0 : 0 < absW X := by
      rcases Nat.eq_zero_or_pos (absW X) with h0 | h0
      · exfalso; apply hz
        unfold side
        rw [if_pos (by omega), if_pos (by omega)]
        exact ⟨rfl, rfl⟩
      · exact h0
    exact Bd_quo_le (by omega) (by omega) (by omega)

theorem some_beq (a b : Ordering) : (some a == some b) = (a == b) := by cases a <;> cases b <;> rfl

/-- both answer alike -/
theorem angle_both (y x : Nat) : ∃ c, (∀ w, Calls Try.prog 24 #[.float .f32 y, .float .f32 x] w (FPost .f32 c w)) ∧ (∀ w, Calls Try.prog 25 #[.float .f32 y, .float .f32 x] w (FPost .f32 c w)) := by
  by_cases hfin : finB .f32 y = true ∧ finB .f32 x = true
  · obtain ⟨hfy, hfx⟩ := hfin
    have ly : y % FloatKind.f32.format.signWeight < FloatKind.f32.format.infRung := of_decide_eq_true hfy
    have lx : x % FloatKind.f32.format.signWeight < FloatKind.f32.format.infRung := of_decide_eq_true hfx
    have ny : nanW .f32 y = false := nanW_of_le (Nat.le_of_lt ly)
    have nx : nanW .f32 x = false := nanW_of_le (Nat.le_of_lt lx)
    obtain ⟨Y, hY, _, hYn⟩ := widen_finite ly
    obtain ⟨X, hX, _, hXn⟩ := widen_finite lx
    have cy : Hid (can .f64 Y = wid (can .f32 y)) := by show can .f64 Y = wid (can .f32 y); rw [can_num hYn, can_num ny]; exact hY.symm
    have cx : Hid (can .f64 X = wid (can .f32 x)) := by show can .f64 X = wid (can .f32 x); rw [can_num hXn, can_num nx]; exact hX.symm
    have fy := (finB_wid cy).trans hfy
    have fx := (finB_wid cx).trans hfx
    obtain ⟨sy, _⟩ := side_wid ny cy
    obtain ⟨sx, _⟩ := side_wid nx cx
    have uniq : ∀ r, Hid (can .f64 r = wid (can .f32 y)) → r = Y := fun r h => by
      have h := h.out
      rw [← cy.out, can_num hYn] at h
      exact (can_eq_some h).2
    have uniqx : ∀ r, Hid (can .f64 r = wid (can .f32 x)) → r = X := fun r h => by
      have h := h.out
      rw [← cx.out, can_num hXn] at h
      exact (can_eq_some h).2
    by_cases hz : side .f32 y = .eq ∧ side .f32 x = .eq
    · refine ⟨nar (can .f64 0), specAngleOf y x _ (fun r s w h1 h2 _ _ => ?_) (fun v hv => ?_), ?_⟩
      · rw [uniq r h1, uniqx s h2]
        exact specAngleZero Y X fy fx (by rw [ord0 hXn, sx, hz.2]) (by rw [ord0 hYn, sy, hz.1]) w
      · rw [show can .f64 0 = some 0 by decide] at hv
        cases hv
        exact ⟨0, by decide⟩
      · rw [show nar (can .f64 0) = some 0 by decide]
        exact implAngleZero y x hfy hfx (by rw [ord0 nx, hz.2]) (by rw [ord0 ny, hz.1])
    · have hok := fun a b => ok_angC (Bd_tan fy fx (by rw [sy, sx]; exact hz)) (FloatKind.f64.format.order (absW Y) (absW X) == some .gt) a b
      have hy0 := ord0 ny
      have hx0 := ord0 nx
      have hY0 := ord0 hYn
      have hX0 := ord0 hXn
      rw [sy] at hY0
      rw [sx] at hX0
      have z1 : (FloatKind.f64.format.order X 0 == some .eq) = false ∨ ((FloatKind.f64.format.order X 0 == some .eq) = true ∧ (FloatKind.f64.format.order Y 0 == some .eq) = false) := by
        rw [hX0, hY0, some_beq, some_beq]
        cases h1 : side .f32 x <;> cases h2 : side .f32 y <;> first | (left; rfl) | (right; exact ⟨rfl, rfl⟩) | exact absurd ⟨h2, h1⟩ hz
      have z2 : (FloatKind.f32.format.order y 0 == some .eq) = false ∨ ((FloatKind.f32.format.order y 0 == some .eq) = true ∧ (FloatKind.f32.format.order x 0 == some .eq) = false) := by
        rw [hx0, hy0, some_beq, some_beq]
        cases h1 : side .f32 x <;> cases h2 : side .f32 y <;> first | (left; rfl) | (right; exact ⟨rfl, rfl⟩) | exact absurd ⟨h2, h1⟩ hz
      refine ⟨nar (angC (tanF Y X (FloatKind.f64.format.order (absW Y) (absW X) == some .gt)) (FloatKind.f64.format.order (absW Y) (absW X) == some .gt) (side .f32 x == .lt) (side .f32 y == .lt)), specAngleOf y x _ (fun r s w h1 h2 wr ws => ?_) (hok _ _), ?_⟩
      · have e1 := uniq r h1
        have e2 := uniqx s h2
        subst e1 e2
        exact specAngle r s _ _ _ fy fx wr ws rfl (by rw [hX0, some_beq]) (by rw [hY0, some_beq]) z1 w
      · exact implAngle y x Y X _ _ _ hfy hfx hY hX (conv_wf (by decide) hY) (conv_wf (by decide) hX) rfl (by rw [hx0, some_beq]) (by rw [hy0, some_beq]) z2 (hok _ _)
  · have h : finB .f32 y = false ∨ (finB .f32 y = true ∧ finB .f32 x = false) := by
      cases h1 : finB .f32 y
      · exact .inl rfl
      · cases h2 : finB .f32 x
        · exact .inr ⟨rfl, rfl⟩
        · exact absurd ⟨h1, h2⟩ hfin
    refine ⟨nar none, specAngleOf y x none (fun r s w h1 h2 _ _ => specAngleNaN r s (by rw [finB_wid h1, finB_wid h2]; exact h) w) (fun v hv => by cases hv), implAngleNaN y x h⟩

theorem lawAngle (y x : Nat) (w : World) :
    Calls Try.prog 8 #[.float .f32 y, .float .f32 x] w fun e w' => e = .returned (.bool true) ∧ ∃ n, w' = w.drewN n := by
  obtain ⟨c, h1, h2⟩ := angle_both y x
  have H1 := Lib.hid h1
  have H2 := Lib.hid h2
  clear h1 h2
  go_enter Try.func8, Try.ntmps8
  go_wp2_with (first | (go_at_call 24; refine (H1.out _).mono ?_; rintro e w' ⟨g, n, rfl, rfl, hc, hg⟩) | (go_at_call 25; refine (H2.out _).mono ?_; rintro e w' ⟨g, n, rfl, rfl, hc, hg⟩) | (go_at_call 14; refine (sameFloat_any _ _ (wid_eq2 (by assumption) (by assumption) (by assumption) (by assumption)) _).mono ?_; rintro e w' ⟨rfl, n, rfl⟩) | ((with_reducible refine upon_wid ?_ ?_ ?_); rotate_left 2; intro _ _ _ _; rotate_left 1; kernel_rfl; kernel_rfl))
  go_ret
  exact ⟨rfl, _, rfl⟩

end Go.Proofs.Ythnlcckogjfipab
