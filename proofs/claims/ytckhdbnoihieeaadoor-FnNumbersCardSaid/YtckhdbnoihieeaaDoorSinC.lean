/-
  What is proved here: the law SineTurns as a walk, whatever is drawn. Conditions: words fit their kinds.
-/
import Derived.Test.YtckhdbnoihieeaaDoorSinB
namespace Go.Proofs.YtckhdbnoihieeaaDoor
open Flt Go.RowKit

theorem upon_wid_eq {P : Program} {o : Oper} {a : Act} {K : Act → World → Prop} {Q : Exit → Act → World → Prop} {s d : TypeId} {x y : Nat} {w : World} {f : Value → World → Result Next} (hy : floatToFloatBits .f32 x .f64 = some y) (hs : (P.underlying s).isSome = true) (hd : P.underlying d = some (.float .f64))
    (h : Oper.upon P o a K Q (f (.float .f64 y) w)) :
    Oper.upon P o a K Q ((Sem.run P (convert s d (.float .f32 x)) w).andThen f) := by
  rw [run_convert_float_float w s d .f32 .f64 x y hs hd hy]
  exact h

theorem finB_wid {x r : Nat} (h : Hid (can .f64 r = wid (can .f32 x))) : finB .f64 r = finB .f32 x := by
  have h := h.out
  unfold finB
  rcases three .f32 x with h1 | h1 | h1
  · obtain ⟨_, _, g3⟩ := widen_V h1 h
    rw [decide_eq_true h1, decide_eq_true g3]
  · have hr : wid (some x) = some _ := widen_inf h1
    rw [can_num (nanW_of_le (Nat.le_of_eq h1)), hr] at h
    obtain ⟨_, rfl⟩ := can_eq_some h
    rw [mod_word _ _ (inf_lt _), decide_eq_false (by omega), decide_eq_false (by omega)]
  · rw [can_nan (nanW_of_lt h1)] at h
    have := (nanW_iff .f64 r).1 (can_eq_none h)
    rw [decide_eq_false (by omega), decide_eq_false (by omega)]

theorem ok_none {r : Nat} (h : Hid (can .f64 r = none)) : okNar (can .f64 r) := by
  rw [h.out]; intro v hv; cases hv

theorem ok_small {y r : Nat} (hy : y % FloatKind.f64.format.signWeight < 4841369599423283200) (h : Hid (can .f64 r = sineF (fracF y))) : okNar (can .f64 r) := by
  rw [h.out]; exact ok_sine hy

theorem nan32_any (w : World) : Calls Tryd.prog 53 #[] w fun e w' => e = .returned (.float .f32 2143289344) ∧ w' = w := by
  have h2 := f32frombits
  go_enter Tryd.func53, Tryd.ntmps53
  go_wp2
  go_ret
  exact ⟨rfl, rfl⟩


theorem implTurnsNaN (x : Nat) (hf : finB .f32 x = false) (w : World) : Calls Tryd.prog 26 #[.float .f32 x] w (FPost .f32 none w) := by
  have Hf := Lib.hid hf
  clear hf
  go_enter Tryd.func26, Tryd.ntmps26
  go_wp2_with (first | (go_at_call 52; refine (implFin _ _).mono ?_; rintro e w' ⟨rfl, n, rfl⟩; rw [Hf.out]) | (go_at_call 53; refine (nan32_any _).mono ?_; rintro e w' ⟨rfl, rfl⟩))
  go_ret
  exact fpost (by decide) ⟨by decide⟩



theorem implTurnsBig (x y : Nat) (hx : finB .f32 x = true) (hy : floatToFloatBits .f32 x .f64 = some y) (hw : WF .f64 y) (hb : 4841369599423283200 ≤ y % FloatKind.f64.format.signWeight) (hi : y % FloatKind.f64.format.signWeight < FloatKind.f64.format.infRung) (w : World) : Calls Tryd.prog 26 #[.float .f32 x] w (FPost .f32 (some 0) w) := by
  have key : FloatKind.f64.format.order (absW y) 4841369599423283200 = some .gt ∨ FloatKind.f64.format.order (absW y) 4841369599423283200 = some .eq := by
    have e : absW y = y % FloatKind.f64.format.signWeight := by rw [sw64]; rfl
    rw [e, order_pos (Nat.le_of_lt hi) (by rw [inf64]; decide)]
    simp only [compare, compareOfLessAndEq]
    rcases Nat.lt_or_eq_of_le hb with h1 | h1
    · left; rw [if_neg (by omega), if_neg (by omega)]
    · right; rw [if_neg (by omega), if_pos (by omega)]
  have Hx := Lib.hid hx
  have Hy := Lib.hid hy
  clear hx hy hb hi
  rcases key with h | h
  · go_enter Tryd.func26, Tryd.ntmps26
    go_wp2_with (first | ((with_reducible refine upon_wid_eq Hy.out ?_ ?_ ?_); rotate_left 2; rotate_left 1; kernel_rfl; kernel_rfl) | (go_at_call 52; refine (implFin _ _).mono ?_; rintro e w' ⟨rfl, n, rfl⟩; rw [Hx.out]) | (go_at_call 51; refine (abs_any _ (by assumption) _).mono ?_; rintro e w' ⟨rfl, rfl⟩))
    go_ret
    exact fpost (by decide) ⟨by decide⟩
  · go_enter Tryd.func26, Tryd.ntmps26
    go_wp2_with (first | ((with_reducible refine upon_wid_eq Hy.out ?_ ?_ ?_); rotate_left 2; rotate_left 1; kernel_rfl; kernel_rfl) | (go_at_call 52; refine (implFin _ _).mono ?_; rintro e w' ⟨rfl, n, rfl⟩; rw [Hx.out]) | (go_at_call 51; refine (abs_any _ (by assumption) _).mono ?_; rintro e w' ⟨rfl, rfl⟩))
    go_ret
    exact fpost (by decide) ⟨by decide⟩

theorem implTurns (x y : Nat) (hx : finB .f32 x = true) (hy : floatToFloatBits .f32 x .f64 = some y) (hw : WF .f64 y) (hb : y % FloatKind.f64.format.signWeight < 4841369599423283200) (w : World) : Calls Tryd.prog 26 #[.float .f32 x] w (FPost .f32 (nar (sineF (fracF y))) w) := by
  have h : FloatKind.f64.format.order (absW y) 4841369599423283200 = some .lt := by
    have e : absW y = y % FloatKind.f64.format.signWeight := by rw [sw64]; rfl
    rw [e, order_pos (by rw [inf64]; omega) (by rw [inf64]; decide)]
    simp only [compare, compareOfLessAndEq]
    rw [if_pos hb]
  obtain ⟨s, m, k, _, _, _, _, hi⟩ := trunc_small hb
  have Hx := Lib.hid hx
  have Hy := Lib.hid hy
  have Hb := Lib.hid hb
  have Hi := Lib.hid hi
  clear hx hy hb hi
  go_enter Tryd.func26, Tryd.ntmps26
  go_wp2_with (first | ((with_reducible refine upon_wid_eq Hy.out ?_ ?_ ?_); rotate_left 2; rotate_left 1; kernel_rfl; kernel_rfl) | (go_at_call 52; refine (implFin _ _).mono ?_; rintro e w' ⟨rfl, n, rfl⟩; rw [Hx.out]) | (go_at_call 51; refine (abs_any _ (by assumption) _).mono ?_; rintro e w' ⟨rfl, rfl⟩) | (go_at_call 55; refine (sine_any _ _ Hi.out _).mono ?_; rintro e w' ⟨g, n, rfl, rfl, hc, hg⟩) | ((with_reducible refine upon_nar ?_ ?_ (ok_small Hb.out (by assumption)) ?_); rotate_left 2; intro _ _ _ _; rotate_left 1; kernel_rfl; kernel_rfl) | go_in)
  rename_i t n3 wt et
  go_ret
  exact fpost (by rw [et.out, hc.out]) wt



end Go.Proofs.YtckhdbnoihieeaaDoor
