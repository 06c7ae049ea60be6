/-
  What is proved here: the law SineTurns as a walk, whatever is drawn. Conditions: words fit their kinds.
-/
import Derived.Test.YthnlcckogjfipabSinB
namespace Go.Proofs.Ythnlcckogjfipab
open Flt Go.RowKit

theorem upon_wid_eq {P : Program} {o : Oper} {a : Act} {K : Act → World → Prop} {Q : Exit → Act → World → Prop} {s d : TypeId} {x y : Nat} {w : World} {f : Value → World → Result Next} (hy : floatToFloatBits .f32 x .f64 = some y) (hs : (P.underlying s).isSome = true) (hd : P.underlying d = some (.float .f64))
    (h : Oper.upon P o a K Q (f (.float .f64 y) w)) :
    Oper.upon P o a K Q ((Sem.run P (convert s d (.float .f32 x)) w).andThen f) := by
  rw [run_convert_float_float w s d .f32 .f64 x y hs hd hy]
  exact h

theorem finB_wid {x r : Nat} (h : Hid (can .f64 r = wid (can .f32 x))) : finB .f64 r = finB .f32 x := by
  have h := h.out
  unfold finB
  rcases three .f32 x with h1 | h1 | h1
  · obtain ⟨_, _, g3⟩ := widen_V h1 h
    rw [decide_eq_true h1, decide_eq_true g3]
  · have hr : wid (some x) = some _ := widen_inf h1
    rw [can_num (nanW_of_le (Nat.le_of_eq h1)), hr] at h
    obtain ⟨_, rfl⟩ := can_eq_some h
    rw [mod_word _ _ (inf_lt _), decide_eq_false (by omega), decide_eq_false (by omega)]
  · rw [can_nan (nanW_of_lt h1)] at h
    have := (nanW_iff .f64 r).1 (can_eq_none h)
    rw [decide_eq_false (by omega), decide_eq_false (by omega)]

theorem ok_none {r : Nat} (h : Hid (can .f64 r = none)) : okNar (can .f64 r) := by
  rw [h.out]; intro v hv; cases hv

theorem ok_small {y r : Nat} (hy : y % FloatKind.f64.format.signWeight < 4841369599423283200) (h : Hid (can .f64 r = sineF (fracF y))) : okNar (can .f64 r) := by
  rw [h.out]; exact ok_sine hy

theorem nan32_any (w : World) : Calls Try.prog 41 #[] w fun e w' => e = .returned (.float .f32 2143289344) ∧ w' = w := by
  have h2 := f32frombits
  go_enter Try.func41, Try.ntmps41
  go_wp2
  go_ret
  exact ⟨rfl, rfl⟩

theorem specTurnsNaN (x : Nat) (hf : finB .f32 x = false) (w : World) : Calls Try.prog 19 #[.float .f32 x] w (FPost .f32 none w) := by
  have Hf := Lib.hid hf
  clear hf
  go_enter Try.func19, Try.ntmps19
  go_wp2_with (first | ((with_reducible refine upon_wid ?_ ?_ ?_); rotate_left 2; intro _ _ _ _; rotate_left 1; kernel_rfl; kernel_rfl) | (go_at_call 64; refine (specSineNaN _ ((finB_wid (by assumption)).trans Hf.out) _).mono ?_; rintro e w' ⟨g, n, rfl, rfl, hc, hg⟩) | ((with_reducible refine upon_nar ?_ ?_ (ok_none (by assumption)) ?_); rotate_left 2; intro _ _ _ _; rotate_left 1; kernel_rfl; kernel_rfl) | go_in)
  rename_i r n1 wr er t n3 wt et
  go_ret
  exact fpost (by rw [et.out, hc.out]; rfl) wt

theorem implTurnsNaN (x : Nat) (hf : finB .f32 x = false) (w : World) : Calls Try.prog 20 #[.float .f32 x] w (FPost .f32 none w) := by
  have Hf := Lib.hid hf
  clear hf
  go_enter Try.func20, Try.ntmps20
  go_wp2_with (first | (go_at_call 40; refine (implFin _ _).mono ?_; rintro e w' ⟨rfl, n, rfl⟩; rw [Hf.out]) | (go_at_call 41; refine (nan32_any _).mono ?_; rintro e w' ⟨rfl, rfl⟩))
  go_ret
  exact fpost (by decide) ⟨by decide⟩

theorem specTurnsBig (x y : Nat) (hy : floatToFloatBits .f32 x .f64 = some y) (hf : finB .f64 y = true) (hb : 4841369599423283200 ≤ y % FloatKind.f64.format.signWeight) (w : World) : Calls Try.prog 19 #[.float .f32 x] w (FPost .f32 (some 0) w) := by
  have Hf := Lib.hid hf
  have Hb := Lib.hid hb
  have Hy := Lib.hid hy
  clear hf hb hy
  go_enter Try.func19, Try.ntmps19
  go_wp2_with (first | ((with_reducible refine upon_wid_eq Hy.out ?_ ?_ ?_); rotate_left 2; rotate_left 1; kernel_rfl; kernel_rfl) | (go_at_call 64; refine (specSineBig _ Hf.out Hb.out _).mono ?_; rintro e w' ⟨g, n, rfl, rfl, hc, hg⟩) | ((with_reducible refine upon_nar ?_ ?_ (ok_const (by assumption)) ?_); rotate_left 2; intro _ _ _ _; rotate_left 1; kernel_rfl; kernel_rfl) | go_in)
  rename_i t n3 wt et
  go_ret
  exact fpost (by rw [et.out, hc.out]; decide) wt

theorem specTurns (x y : Nat) (hy : floatToFloatBits .f32 x .f64 = some y) (hf : finB .f64 y = true) (hb : y % FloatKind.f64.format.signWeight < 4841369599423283200) (w : World) : Calls Try.prog 19 #[.float .f32 x] w (FPost .f32 (nar (sineF (fracF y))) w) := by
  obtain ⟨s, m, k, _, _, _, _, hi⟩ := trunc_small hb
  obtain ⟨b1, b2, b3, b4⟩ := small_signed hb
  have Hf := Lib.hid hf
  have Hb := Lib.hid hb
  have Hy := Lib.hid hy
  have Hi := Lib.hid hi
  have B1 := Lib.hid b1
  have B2 := Lib.hid b2
  have B3 := Lib.hid b3
  have B4 := Lib.hid b4
  clear hf hb hy hi b1 b2 b3 b4
  go_enter Try.func19, Try.ntmps19
  go_wp2_with (first | ((with_reducible refine upon_wid_eq Hy.out ?_ ?_ ?_); rotate_left 2; rotate_left 1; kernel_rfl; kernel_rfl) | (go_at_call 64; refine (specSine _ _ Hi.out Hf.out B1.out B2.out B3.out B4.out _).mono ?_; rintro e w' ⟨g, n, rfl, rfl, hc, hg⟩) | ((with_reducible refine upon_nar ?_ ?_ (ok_small Hb.out (by assumption)) ?_); rotate_left 2; intro _ _ _ _; rotate_left 1; kernel_rfl; kernel_rfl) | go_in)
  rename_i t n3 wt et
  go_ret
  exact fpost (by rw [et.out, hc.out]) wt

theorem implTurnsBig (x y : Nat) (hx : finB .f32 x = true) (hy : floatToFloatBits .f32 x .f64 = some y) (hw : WF .f64 y) (hb : 4841369599423283200 ≤ y % FloatKind.f64.format.signWeight) (hi : y % FloatKind.f64.format.signWeight < FloatKind.f64.format.infRung) (w : World) : Calls Try.prog 20 #[.float .f32 x] w (FPost .f32 (some 0) w) := by
  have key : FloatKind.f64.format.order (absW y) 4841369599423283200 = some .gt ∨ FloatKind.f64.format.order (absW y) 4841369599423283200 = some .eq := by
    have e : absW y = y % FloatKind.f64.format.signWeight := by rw [sw64]; rfl
    rw [e, order_pos (Nat.le_of_lt hi) (by rw [inf64]; decide)]
    simp only [compare, compareOfLessAndEq]
    rcases Nat.lt_or_eq_of_le hb with h1 | h1
    · left; rw [if_neg (by omega), if_neg (by omega)]
    · right; rw [if_neg (by omega), if_pos (by omega)]
  have Hx := Lib.hid hx
  have Hy := Lib.hid hy
  clear hx hy hb hi
  rcases key with h | h
  · go_enter Try.func20, Try.ntmps20
    go_wp2_with (first | ((with_reducible refine upon_wid_eq Hy.out ?_ ?_ ?_); rotate_left 2; rotate_left 1; kernel_rfl; kernel_rfl) | (go_at_call 40; refine (implFin _ _).mono ?_; rintro e w' ⟨rfl, n, rfl⟩; rw [Hx.out]) | (go_at_call 36; refine (abs_any _ (by assumption) _).mono ?_; rintro e w' ⟨rfl, rfl⟩))
    go_ret
    exact fpost (by decide) ⟨by decide⟩
  · go_enter Try.func20, Try.ntmps20
    go_wp2_with (first | ((with_reducible refine upon_wid_eq Hy.out ?_ ?_ ?_); rotate_left 2; rotate_left 1; kernel_rfl; kernel_rfl) | (go_at_call 40; refine (implFin _ _).mono ?_; rintro e w' ⟨rfl, n, rfl⟩; rw [Hx.out]) | (go_at_call 36; refine (abs_any _ (by assumption) _).mono ?_; rintro e w' ⟨rfl, rfl⟩))
    go_ret
    exact fpost (by decide) ⟨by decide⟩

theorem implTurns (x y : Nat) (hx : finB .f32 x = true) (hy : floatToFloatBits .f32 x .f64 = some y) (hw : WF .f64 y) (hb : y % FloatKind.f64.format.signWeight < 4841369599423283200) (w : World) : Calls Try.prog 20 #[.float .f32 x] w (FPost .f32 (nar (sineF (fracF y))) w) := by
  have h : FloatKind.f64.format.order (absW y) 4841369599423283200 = some .lt := by
    have e : absW y = y % FloatKind.f64.format.signWeight := by rw [sw64]; rfl
    rw [e, order_pos (by rw [inf64]; omega) (by rw [inf64]; decide)]
    simp only [compare, compareOfLessAndEq]
    rw [if_pos hb]
  obtain ⟨s, m, k, _, _, _, _, hi⟩ := trunc_small hb
  have Hx := Lib.hid hx
  have Hy := Lib.hid hy
  have Hb := Lib.hid hb
  have Hi := Lib.hid hi
  clear hx hy hb hi
  go_enter Try.func20, Try.ntmps20
  go_wp2_with (first | ((with_reducible refine upon_wid_eq Hy.out ?_ ?_ ?_); rotate_left 2; rotate_left 1; kernel_rfl; kernel_rfl) | (go_at_call 40; refine (implFin _ _).mono ?_; rintro e w' ⟨rfl, n, rfl⟩; rw [Hx.out]) | (go_at_call 36; refine (abs_any _ (by assumption) _).mono ?_; rintro e w' ⟨rfl, rfl⟩) | (go_at_call 42; refine (sine_any _ _ Hi.out _).mono ?_; rintro e w' ⟨g, n, rfl, rfl, hc, hg⟩) | ((with_reducible refine upon_nar ?_ ?_ (ok_small Hb.out (by assumption)) ?_); rotate_left 2; intro _ _ _ _; rotate_left 1; kernel_rfl; kernel_rfl) | go_in)
  rename_i t n3 wt et
  go_ret
  exact fpost (by rw [et.out, hc.out]) wt

/-- both answer alike -/
theorem turns_both (x : Nat) : ∃ c, (∀ w, Calls Try.prog 19 #[.float .f32 x] w (FPost .f32 c w)) ∧ (∀ w, Calls Try.prog 20 #[.float .f32 x] w (FPost .f32 c w)) := by
  cases hf : finB .f32 x with
  | false => exact ⟨none, specTurnsNaN x hf, implTurnsNaN x hf⟩
  | true =>
    obtain ⟨y, hy, _, hn⟩ := widen_finite (of_decide_eq_true hf)
    have hyf : finB .f64 y = true := by
      refine (finB_wid (x := x) ?_).trans hf
      show can .f64 y = wid (can .f32 x)
      rw [can_num hn, can_num (nanW_of_le (Nat.le_of_lt (of_decide_eq_true hf)))]
      exact hy.symm
    have hw := conv_wf (by decide) hy
    by_cases hb : y % FloatKind.f64.format.signWeight < 4841369599423283200
    · exact ⟨_, specTurns x y hy hyf hb, implTurns x y hf hy hw hb⟩
    · exact ⟨_, specTurnsBig x y hy hyf (by omega), implTurnsBig x y hf hy hw (by omega) (of_decide_eq_true hyf)⟩

theorem lawSine (x : Nat) (w : World) :
    Calls Try.prog 6 #[.float .f32 x] w fun e w' => e = .returned (.bool true) ∧ ∃ n, w' = w.drewN n := by
  obtain ⟨c, h1, h2⟩ := turns_both x
  have H1 := Lib.hid h1
  have H2 := Lib.hid h2
  clear h1 h2
  go_enter Try.func6, Try.ntmps6
  go_wp2_with (first | (go_at_call 19; refine (H1.out _).mono ?_; rintro e w' ⟨g, n, rfl, rfl, hc, hg⟩) | (go_at_call 20; refine (H2.out _).mono ?_; rintro e w' ⟨g, n, rfl, rfl, hc, hg⟩) | (go_at_call 14; refine (sameFloat_any _ _ (wid_eq2 (by assumption) (by assumption) (by assumption) (by assumption)) _).mono ?_; rintro e w' ⟨rfl, n, rfl⟩) | ((with_reducible refine upon_wid ?_ ?_ ?_); rotate_left 2; intro _ _ _ _; rotate_left 1; kernel_rfl; kernel_rfl))
  go_ret
  exact ⟨rfl, _, rfl⟩

end Go.Proofs.Ythnlcckogjfipab
