/-
  What is proved here: sums of complex numbers, whatever is drawn; a turtle's move and turn, of both packages, told up to not-a-numbers by functions of what its numbers are. Conditions: none but those that each theorem names.
-/
import Derived.Test.YthhimielelpcoaaPhaB
import Derived.Deep.RegionWith
namespace Go.Proofs.Ythhimielelpcoaa
open Flt Go.RowKit
set_option linter.unusedVariables false
set_option linter.unusedSimpArgs false

theorem run_carith_any {P : Program} (x y : Nat) (w : World) : ∃ r n, (Op.Complex.arith .add .f32 x y).run P w = .ok r (w.drewN n) ∧ can .f32 r = fop .add .f32 (can .f32 x) (can .f32 y) := by
  cases h : floatBits .add .f32 x y with
  | some r => exact ⟨r, 0, Go.run_carith w h, by rw [fop_can, h, can_num (floatBits_num h)]⟩
  | none =>
    refine ⟨(Question.nanBits .f32 x y).cut (w.tape w.drawn (.nanBits .f32 x y)), 1, ?_, ?_⟩
    · unfold floatBits at h
      simp only at h
      simp [Op.Complex.arith, Op.floatArith, h, Question.forced, World.drew_is_drewN]
    · rw [fop_can, h, can_nan (nan_cut .f32 x y _)]
theorem run_cadd {P : Program} (t : TypeId) (a b c d : Nat) (w : World) : ∃ r s n, (binOp .add t (.complex .f32 a b) (.complex .f32 c d)).run P w = .ok (.complex .f32 r s) (w.drewN n) ∧ Hid (can .f32 r = fop .add .f32 (can .f32 a) (can .f32 c)) ∧ Hid (can .f32 s = fop .add .f32 (can .f32 b) (can .f32 d)) := by
  obtain ⟨r, n, h1, h2⟩ := run_carith_any (P := P) a c w
  obtain ⟨s, m, h3, h4⟩ := run_carith_any (P := P) b d (w.drewN n)
  refine ⟨r, s, n + m, ?_, h2, h4⟩
  have e : (w.drewN n).drewN m = w.drewN (n + m) := by simp
  rw [← e]
  simp [binOp, Op.complexOp, h1, h3]
theorem upon_cadd {P : Program} {o : Oper} {a : Act} {K : Act → World → Prop} {Q : Exit → Act → World → Prop} {t : TypeId} {x y u v : Nat} {w : World} {f : Value → World → Result Next}
    (h : ∀ r s n, Hid (can .f32 r = fop .add .f32 (can .f32 x) (can .f32 u)) → Hid (can .f32 s = fop .add .f32 (can .f32 y) (can .f32 v)) → Oper.upon P o a K Q (f (.complex .f32 r s) (w.drewN n))) :
    Oper.upon P o a K Q ((Sem.run P (binOp .add t (.complex .f32 x y) (.complex .f32 u v)) w).andThen f) := by
  obtain ⟨r, s, n, hr, hc, hl⟩ := run_cadd (P := P) t x y u v w
  rw [hr]
  exact h r s n hc hl

theorem fin64_num {y : Nat} (h : nanW .f64 y = true) : finB .f64 y = false := by
  unfold finB
  rw [decide_eq_false_iff_not]
  intro g
  have := (nanW_iff .f64 y).1 h
  omega
/-- the phasor of a 32-bit turn, as functions of what it is -/
theorem pha_fn : ∃ PF : Option Nat → Option Nat × Option Nat, ∀ (u r : Nat), WF .f64 r → can .f64 r = wid (can .f32 u) →
    (∀ w, Calls Try.prog 126 #[.float .f64 r] w (CPost (PF (can .f32 u)).1 (PF (can .f32 u)).2 w)) ∧ (∀ w, Calls Try.prog 132 #[.float .f64 r] w (CPost (PF (can .f32 u)).1 (PF (can .f32 u)).2 w)) := by
  have key : ∀ c : Option Nat, ∃ p : Option Nat × Option Nat, ∀ r, WF .f64 r → can .f64 r = wid c → (∀ w, Calls Try.prog 126 #[.float .f64 r] w (CPost p.1 p.2 w)) ∧ (∀ w, Calls Try.prog 132 #[.float .f64 r] w (CPost p.1 p.2 w)) := fun c => by
    cases hc : wid c with
    | none => exact ⟨(none, none), fun r hr h => ⟨specPhaNaN r (fin64_num (can_eq_none h)), implPhaNaN r (fin64_num (can_eq_none h)) hr⟩⟩
    | some y =>
      by_cases hy : WF .f64 y
      · obtain ⟨g, h, h1, h2⟩ := pha_both y hy
        exact ⟨(g, h), fun r hr he => by
          obtain ⟨_, e⟩ := can_eq_some he
          rw [e]; exact ⟨h1, h2⟩⟩
      · exact ⟨(none, none), fun r hr he => by
          obtain ⟨_, e⟩ := can_eq_some he
          rw [e] at hr; exact absurd hr hy⟩
  obtain ⟨f, hf⟩ := Classical.axiomOfChoice key
  exact ⟨f, fun u r hr h => hf _ r hr h⟩

theorem specScl (a b s : Nat) (w : World) : Calls Try.prog 125 #[.complex .f32 a b, .float .f32 s] w (CPost (fop .mul .f32 (can .f32 a) (can .f32 s)) (fop .mul .f32 (can .f32 b) (can .f32 s)) w) := by
  go_enter Try.func125, Try.ntmps125
  go_wp2_with ((with_reducible refine upon_bin rfl ?_); intro _ _ _ _)
  rename_i r1 n1 w1 e1 r2 n2 w2 e2
  go_ret
  exact ⟨r1, r2, _, rfl, rfl, e1, e2⟩
theorem implScl (a b s : Nat) (w : World) : Calls Try.prog 131 #[.complex .f32 a b, .float .f32 s] w (CPost (fop .mul .f32 (can .f32 a) (can .f32 s)) (fop .mul .f32 (can .f32 b) (can .f32 s)) w) := by
  go_enter Try.func131, Try.ntmps131
  go_wp2_with ((with_reducible refine upon_bin rfl ?_); intro _ _ _ _)
  rename_i r1 n1 w1 e1 r2 n2 w2 e2
  go_ret
  exact ⟨r1, r2, _, rfl, rfl, e1, e2⟩
theorem implAdC (a b c d : Nat) (w : World) : Calls Try.prog 130 #[.complex .f32 a b, .complex .f32 c d] w (CPost (fop .add .f32 (can .f32 a) (can .f32 c)) (fop .add .f32 (can .f32 b) (can .f32 d)) w) := by
  go_enter Try.func130, Try.ntmps130
  go_wp2_with ((with_reducible refine upon_bin rfl ?_); intro _ _ _ _)
  rename_i r1 n1 w1 e1 r2 n2 w2 e2
  go_ret
  exact ⟨r1, r2, _, rfl, rfl, e1, e2⟩
/-- where a move leads, by a phasor -/
def fwd (P : Option Nat) (a s : Option Nat) : Option Nat := fop .add .f32 a (fop .mul .f32 P s)
theorem specFwd (PF : Option Nat → Option Nat × Option Nat) (hPF : ∀ (u r : Nat), WF .f64 r → can .f64 r = wid (can .f32 u) →
    (∀ w, Calls Try.prog 126 #[.float .f64 r] w (CPost (PF (can .f32 u)).1 (PF (can .f32 u)).2 w)) ∧ (∀ w, Calls Try.prog 132 #[.float .f64 r] w (CPost (PF (can .f32 u)).1 (PF (can .f32 u)).2 w)))
    (a b u s : Nat) (w : World) : Calls Try.prog 82 #[.complex .f32 a b, .float .f32 u, .float .f32 s] w (CPost (fwd (PF (can .f32 u)).1 (can .f32 a) (can .f32 s)) (fwd (PF (can .f32 u)).2 (can .f32 b) (can .f32 s)) w) := by
  have HP := Lib.hid (hPF u)
  clear hPF
  generalize PF (can .f32 u) = p at *
  go_enter Try.func82, Try.ntmps82
  go_wp2_with (first
    | ((with_reducible refine upon_wid ?_ ?_ ?_); rotate_left 2; intro r0 n0 hr0 e0; rotate_left 1; kernel_rfl; kernel_rfl)
    | (go_at_call 126; refine ((HP.out _ (by assumption) (by exact (‹Hid (can .f64 _ = wid (can .f32 u))›).out)).1 _).mono ?_; rintro e w1 ⟨g1, g2, n1, rfl, rfl, q1, q2⟩)
    | (go_at_call 125; refine (specScl _ _ _ _).mono ?_; rintro e w2 ⟨g3, g4, n2, rfl, rfl, q3, q4⟩)
    | ((with_reducible refine upon_cadd ?_); intro r5 s5 n5 q5 q6))
  go_ret
  exact ⟨r5, s5, _, rfl, rfl, by show _ = fwd _ _ _; rw [q5.out, q3.out, q1.out]; rfl, by show _ = fwd _ _ _; rw [q6.out, q4.out, q2.out]; rfl⟩
/-- both parts are finite -/
def cfT (q : Nat × Nat) : Bool := finB .f32 q.1 && finB .f32 q.2
theorem specFinT (q : Nat × Nat) (w : World) :
    Calls Try.prog 127 #[.complex .f32 q.1 q.2] w fun e w' => e = .returned (.bool (cfT q)) ∧ ∃ n, w' = w.drewN n := by
  have N : Hid (cfT q = (finB .f32 q.1 && finB .f32 q.2)) := rfl
  generalize q.1 = x at *
  generalize q.2 = y at *
  cases h : finB .f32 x
  · have c1 : Hid (∀ W, Calls Try.prog 79 #[.float .f32 x] W fun e w' => e = .returned (.bool false) ∧ ∃ n, w' = W.drewN n) := fun W => by have := specFin x W; rwa [h] at this
    rw [h] at N
    clear h
    go_enter Try.func127, Try.ntmps127
    go_wp2_with (go_at_call 79; refine (c1.out _).mono ?_; rintro e w' ⟨rfl, n, rfl⟩)
    go_ret
    exact ⟨by rw [N.out]; rfl, _, rfl⟩
  · have c1 : Hid (∀ W, Calls Try.prog 79 #[.float .f32 x] W fun e w' => e = .returned (.bool true) ∧ ∃ n, w' = W.drewN n) := fun W => by have := specFin x W; rwa [h] at this
    rw [h] at N
    clear h
    go_enter Try.func127, Try.ntmps127
    go_wp2_with fail
    refine (c1.out _).mono ?_
    rintro e w' ⟨rfl, n, rfl⟩
    go_wp2_with fail
    refine (specFin y _).mono ?_
    rintro e w' ⟨rfl, n2, rfl⟩
    go_wp2_with fail
    go_ret
    exact ⟨by rw [N.out]; rfl, _, rfl⟩
theorem implFinT (q : Nat × Nat) (w : World) :
    Calls Try.prog 133 #[.complex .f32 q.1 q.2] w fun e w' => e = .returned (.bool (cfT q)) ∧ ∃ n, w' = w.drewN n := by
  have N : Hid (cfT q = (finB .f32 q.1 && finB .f32 q.2)) := rfl
  generalize q.1 = x at *
  generalize q.2 = y at *
  cases h : finB .f32 x
  · have c1 : Hid (∀ W, Calls Try.prog 129 #[.float .f32 x] W fun e w' => e = .returned (.bool false) ∧ ∃ n, w' = W.drewN n) := fun W => by have := implFin x W; rwa [h] at this
    rw [h] at N
    clear h
    go_enter Try.func133, Try.ntmps133
    go_wp2_with (go_at_call 129; refine (c1.out _).mono ?_; rintro e w' ⟨rfl, n, rfl⟩)
    go_ret
    exact ⟨by rw [N.out]; rfl, _, rfl⟩
  · have c1 : Hid (∀ W, Calls Try.prog 129 #[.float .f32 x] W fun e w' => e = .returned (.bool true) ∧ ∃ n, w' = W.drewN n) := fun W => by have := implFin x W; rwa [h] at this
    rw [h] at N
    clear h
    go_enter Try.func133, Try.ntmps133
    go_wp2_with fail
    refine (c1.out _).mono ?_
    rintro e w' ⟨rfl, n, rfl⟩
    go_wp2_with fail
    refine (implFin y _).mono ?_
    rintro e w' ⟨rfl, n2, rfl⟩
    go_wp2_with fail
    go_ret
    exact ⟨by rw [N.out]; rfl, _, rfl⟩

/-- a turn behind a letter -/
def trnO (L : Nat) (n t : Option Nat) : Option Nat := if L = 43 then fop .add .f32 n t else if L = 45 then fop .sub .f32 n t else n
def movB (L : Nat) : Bool := decide (L = 70) || decide (L = 71)
def brkB (L : Nat) : Bool := decide (L = 91) || decide (L = 93)
theorem specTrn (L u v : Nat) (hL : L < 256) (w : World) : Calls Try.prog 80 #[.int .u8 (L : Nat), .float .f32 u, .float .f32 v] w fun e w' => ∃ g n, e = .returned (.float .f32 g) ∧ w' = w.drewN n ∧ Hid (can .f32 g = trnO L (can .f32 u) (can .f32 v)) := by
  by_cases h1 : L = 43
  · subst h1
    go_enter Try.func80, Try.ntmps80
    go_wp2_with ((with_reducible refine upon_bin rfl ?_); intro r1 n1 _ e1)
    go_ret
    exact ⟨r1, _, rfl, rfl, e1⟩
  · have hb1 : (((L : Nat) : Int) == 43) = false := beq_eq_false_iff_ne.2 (by omega)
    by_cases h2 : L = 45
    · subst h2
      clear hb1
      go_enter Try.func80, Try.ntmps80
      go_wp2_with ((with_reducible refine upon_bin rfl ?_); intro r1 n1 _ e1)
      go_ret
      exact ⟨r1, _, rfl, rfl, e1⟩
    · have hb2 : (((L : Nat) : Int) == 45) = false := beq_eq_false_iff_ne.2 (by omega)
      have N : Hid (trnO L (can .f32 u) (can .f32 v) = can .f32 u) := by show _ = _; unfold trnO; rw [if_neg h1, if_neg h2]
      clear h1 h2
      go_enter Try.func80, Try.ntmps80
      go_wp2_with fail
      go_ret
      exact ⟨u, 0, rfl, rfl, by show _ = _; rw [N.out]⟩
theorem specMov (L : Nat) (w : World) : Calls Try.prog 81 #[.int .u8 (L : Nat)] w fun e w' => e = .returned (.bool (movB L)) ∧ w = w' := by
  by_cases h1 : L = 70
  · subst h1
    go_enter Try.func81, Try.ntmps81
    go_wp2_with fail
    go_ret
    exact ⟨rfl, rfl⟩
  · have hb1 : (((L : Nat) : Int) == 70) = false := beq_eq_false_iff_ne.2 (by omega)
    by_cases h2 : L = 71
    · subst h2
      clear hb1
      go_enter Try.func81, Try.ntmps81
      go_wp2_with fail
      go_ret
      exact ⟨rfl, rfl⟩
    · have hb2 : (((L : Nat) : Int) == 71) = false := beq_eq_false_iff_ne.2 (by omega)
      have N : Hid (movB L = false) := by show _ = _; unfold movB; rw [decide_eq_false h1, decide_eq_false h2]; rfl
      clear h1 h2
      go_enter Try.func81, Try.ntmps81
      go_wp2_with fail
      go_ret
      exact ⟨by rw [N.out]; rfl, rfl⟩
end Go.Proofs.Ythhimielelpcoaa
