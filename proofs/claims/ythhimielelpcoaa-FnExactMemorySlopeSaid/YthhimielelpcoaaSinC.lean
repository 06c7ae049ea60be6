/-
  What is proved here: the law SineTurns as a walk, whatever is drawn. Conditions: words fit their kinds.
-/
import Derived.Test.YthhimielelpcoaaSinB
namespace Go.Proofs.Ythhimielelpcoaa
open Flt Go.RowKit

theorem upon_wid_eq {P : Program} {o : Oper} {a : Act} {K : Act → World → Prop} {Q : Exit → Act → World → Prop} {s d : TypeId} {x y : Nat} {w : World} {f : Value → World → Result Next} (hy : floatToFloatBits .f32 x .f64 = some y) (hs : (P.underlying s).isSome = true) (hd : P.underlying d = some (.float .f64))
    (h : Oper.upon P o a K Q (f (.float .f64 y) w)) :
    Oper.upon P o a K Q ((Sem.run P (convert s d (.float .f32 x)) w).andThen f) := by
  rw [run_convert_float_float w s d .f32 .f64 x y hs hd hy]
  exact h

theorem finB_wid {x r : Nat} (h : Hid (can .f64 r = wid (can .f32 x))) : finB .f64 r = finB .f32 x := by
  have h := h.out
  unfold finB
  rcases three .f32 x with h1 | h1 | h1
  · obtain ⟨_, _, g3⟩ := widen_V h1 h
    rw [decide_eq_true h1, decide_eq_true g3]
  · have hr : wid (some x) = some _ := widen_inf h1
    rw [can_num (nanW_of_le (Nat.le_of_eq h1)), hr] at h
    obtain ⟨_, rfl⟩ := can_eq_some h
    rw [mod_word _ _ (inf_lt _), decide_eq_false (by omega), decide_eq_false (by omega)]
  · rw [can_nan (nanW_of_lt h1)] at h
    have := (nanW_iff .f64 r).1 (can_eq_none h)
    rw [decide_eq_false (by omega), decide_eq_false (by omega)]

theorem ok_none {r : Nat} (h : Hid (can .f64 r = none)) : okNar (can .f64 r) := by
  rw [h.out]; intro v hv; cases hv

theorem ok_small {y r : Nat} (hy : y % FloatKind.f64.format.signWeight < 4841369599423283200) (h : Hid (can .f64 r = sineF (fracF y))) : okNar (can .f64 r) := by
  rw [h.out]; exact ok_sine hy

theorem nan32_any (w : World) : Calls Try.prog 165 #[] w fun e w' => e = .returned (.float .f32 2143289344) ∧ w' = w := by
  have h2 := f32frombits
  go_enter Try.func165, Try.ntmps165
  go_wp2
  go_ret
  exact ⟨rfl, rfl⟩









end Go.Proofs.Ythhimielelpcoaa
