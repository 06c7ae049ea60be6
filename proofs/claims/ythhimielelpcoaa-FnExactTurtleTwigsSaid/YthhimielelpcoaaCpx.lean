/-
  What is proved here: complex numbers widened, whatever is drawn; what a function gives that answers a complex number. Conditions: none but those that each theorem names. Own text; no dump.
-/
import Derived.Test.YthhimielelpcoaaFlt
import Derived.Laws.ComplexArith
namespace Go.Proofs.Ythhimielelpcoaa
namespace Flt
open Ieee

theorem run_ftf_wid {P : Program} (x : Nat) (w : World) :
    ∃ r n, (Conv.floatToFloat .f32 x .f64).run P w = .ok (.float .f64 r) (w.drewN n) ∧ RowKit.Hid (can .f64 r = wid (can .f32 x)) := by
  by_cases hn : nanW .f32 x = true
  · obtain ⟨sg, t, hd⟩ := nan_decode hn
    refine ⟨(Question.nanConv .f64 x).cut (w.tape w.drawn (.nanConv .f64 x)), 1, ?_, by show can .f64 _ = _; rw [can_nan hn, can_nan (nanConv_cut .f64 x _)]; rfl⟩
    simp [Conv.floatToFloat, hd, Question.forced, World.drew_is_drewN]
  · have hn' : nanW .f32 x = false := by simpa using hn
    have hle : x % FloatKind.f32.format.signWeight ≤ FloatKind.f32.format.infRung := Nat.le_of_not_lt fun hc => hn (nanW_of_lt hc)
    rcases Nat.lt_or_eq_of_le hle with hlt | heq
    · obtain ⟨r, hr, _, hrn⟩ := widen_finite hlt
      exact ⟨r, 0, Go.run_floatToFloat w hr, by show can .f64 r = _; rw [can_num hn', can_num hrn]; exact hr.symm⟩
    · have hr := widen_inf heq
      refine ⟨_, 0, Go.run_floatToFloat w hr, ?_⟩
      show can .f64 _ = _
      rw [can_num hn', can_num]
      · exact hr.symm
      · refine nanW_of_le ?_
        rw [mod_word _ _ (inf_lt _)]; exact Nat.le_refl _

theorem run_widc {P : Program} {src dst : TypeId} (hs : (P.underlying src).isSome = true) (hd : P.underlying dst = some (.complex .f64)) (a b : Nat) (w : World) :
    ∃ r s n, (convert src dst (.complex .f32 a b)).run P w = .ok (.complex .f64 r s) (w.drewN n) ∧ RowKit.Hid (can .f64 r = wid (can .f32 a)) ∧ RowKit.Hid (can .f64 s = wid (can .f32 b)) := by
  obtain ⟨u, hs'⟩ := Option.isSome_iff_exists.1 hs
  obtain ⟨r, n, h1, h2⟩ := run_ftf_wid (P := P) a w
  obtain ⟨s, m, h3, h4⟩ := run_ftf_wid (P := P) b (w.drewN n)
  refine ⟨r, s, n + m, ?_, h2, h4⟩
  have e : (w.drewN n).drewN m = w.drewN (n + m) := by simp
  rw [← e]
  cases u <;> simp [convert, run_underlying hs', run_underlying hd, Conv.complexToComplex, h1, h3]

theorem upon_widc {P : Program} {o : Oper} {a : Act} {K : Act → World → Prop} {Q : Exit → Act → World → Prop} {s d : TypeId} {x y : Nat} {w : World} {f : Value → World → Result Next} (hs : (P.underlying s).isSome = true) (hd : P.underlying d = some (.complex .f64))
    (h : ∀ r t n, RowKit.Hid (can .f64 r = wid (can .f32 x)) → RowKit.Hid (can .f64 t = wid (can .f32 y)) → Oper.upon P o a K Q (f (.complex .f64 r t) (w.drewN n))) :
    Oper.upon P o a K Q ((Sem.run P (convert s d (.complex .f32 x y)) w).andThen f) := by
  obtain ⟨r, t, n, hr, hc, hl⟩ := run_widc (P := P) hs hd x y w
  rw [hr]
  exact h r t n hc hl

/-- what a function gives that answers a complex number -/
def CPost (c d : Option Nat) (w : World) (e : Ending) (w' : World) : Prop := ∃ g h n, e = .returned (.complex .f32 g h) ∧ w' = w.drewN n ∧ RowKit.Hid (can .f32 g = c) ∧ RowKit.Hid (can .f32 h = d)

theorem cpost {c d : Option Nat} {w : World} {g h n : Nat} (h1 : can .f32 g = c) (h2 : can .f32 h = d) : CPost c d w (.returned (.complex .f32 g h)) (w.drewN n) := ⟨g, h, n, rfl, rfl, h1, h2⟩

end Flt
end Go.Proofs.Ythhimielelpcoaa
