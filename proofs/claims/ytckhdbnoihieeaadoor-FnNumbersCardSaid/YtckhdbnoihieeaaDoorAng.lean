/-
  What is proved here: the angle whose tangent is given, as a walk, whatever is drawn. Conditions: none but those that each theorem names.
-/
import Derived.Test.YtckhdbnoihieeaaDoorRoot
import Derived.Test.YtckhdbnoihieeaaDoorLogB
import Derived.Test.YtckhdbnoihieeaaDoorLogC
namespace Go.Proofs.YtckhdbnoihieeaaDoor
open Flt Go.RowKit
attribute [local go_sem] unary_negf

/-- half the angle -/
def stepT (t : Option Nat) : Option Nat := fop .quo .f64 t (fop .add .f64 (can .f64 4607182418800017408) (fsqrt (fop .add .f64 (can .f64 4607182418800017408) (fop .mul .f64 t t))))
def stepsT (t : Option Nat) : Nat → Option Nat
  | 0 => t
  | j + 1 => stepT (stepsT t j)
/-- the series -/
def polyA (u : Option Nat) : Nat → Option Nat
  | 0 => can .f64 0
  | j + 1 => fop .sub .f64 (fop .quo .f64 (can .f64 4607182418800017408) (can .f64 (floatOfInt .f64 ((15 - 2 * j : Nat) : Int)))) (fop .mul .f64 u (polyA u j))
def angF (t : Option Nat) : Option Nat :=
  let s := stepsT t 3
  fop .quo .f64 (fop .mul .f64 (can .f64 4620693217682128896) (fop .mul .f64 s (polyA (fop .mul .f64 s s) 8))) (can .f64 4618760256179416344)

theorem angle_any (t : Nat) (w : World) : Calls Tryd.prog 54 #[.float .f64 t] w (FPost .f64 (angF (can .f64 t)) w) := by
  go_enter Tryd.func54, Tryd.ntmps54
  go_wp2_with (first | ((with_reducible refine upon_bin rfl ?_); intro _ _ _ _) | ((with_reducible refine upon_sqrt ?_); intro _ _ _ _) | go_in)
  go_loopw [0, 6] (fun z k wr => ∃ j : Nat, j ≤ 3 ∧ k = .int .i64 (j : Int) ∧ ∃ tw nw, z = .float .f64 tw ∧ wr = w.drewN nw ∧ Hid (can .f64 tw = stepsT (can .f64 t) j)) (fun _ k _ => 3 - (intOf k).toNat)
  case atStart => exact ⟨0, by omega, rfl, _, 0, rfl, rfl, rfl⟩
  case round =>
    obtain ⟨j, hj, rfl, tw, nw, rfl, rfl, hp⟩ := hrel
    by_cases hlt : j < 3
    · go_wp2_with (first | ((with_reducible refine upon_bin rfl ?_); intro _ _ _ _) | ((with_reducible refine upon_sqrt ?_); intro _ _ _ _) | go_in)
      rename_i c1 m1 v1 x1 c2 m2 v2 x2 c3 m3 v3 x3 c4 m4 v4 x4 c5 m5 v5 x5
      go_roundw
      case rel => exact ⟨j + 1, by omega, by go_num, _, _, rfl, rfl, by show can .f64 c5 = _; rw [x5.out, x4.out, x3.out, x2.out, x1.out, hp.out]; rfl⟩
      case measure => simp [intOf]; omega
    · obtain rfl : j = 3 := by omega
      go_wp2_with (first | ((with_reducible refine upon_bin rfl ?_); intro _ _ _ _) | ((with_reducible refine upon_sqrt ?_); intro _ _ _ _) | go_in)
      rename_i u nu wu eu K hK
      go_loopw [4, 5] (fun q k wr => ∃ j : Nat, j ≤ 8 ∧ k = .int .i64 ((15 : Int) - 2 * (j : Int)) ∧ ∃ qw mw, q = .float .f64 qw ∧ wr = w.drewN mw ∧ Hid (can .f64 qw = polyA (can .f64 u) j)) (fun _ k _ => (2 + intOf k).toNat)
      case atStart => exact ⟨0, by omega, rfl, _, _, rfl, rfl, rfl⟩
      case round =>
        obtain ⟨j, hj, rfl, qw, mw, rfl, rfl, hq⟩ := hrel
        by_cases hlt : j < 8
        · have h5 : (1 : Int) ≤ (15 : Int) - 2 * (j : Int) := by omega
          have h6 : (15 : Int) - 2 * (j : Int) ≤ 15 := by omega
          have hk : Hid ((15 : Int) - 2 * (j : Int) = ((15 - 2 * j : Nat) : Int)) := by show (15 : Int) - 2 * (j : Int) = ((15 - 2 * j : Nat) : Int); omega
          go_wp2_with (first | ((with_reducible refine upon_bin rfl ?_); intro _ _ _ _) | ((with_reducible refine upon_sqrt ?_); intro _ _ _ _) | go_in)
          rename_i c1 m1 v1 x1 c2 m2 v2 x2 c3 m3 v3 x3
          go_roundw
          case rel => exact ⟨j + 1, by omega, by rw [show (15 : Int) - 2 * (j : Int) - 2 = (15 : Int) - 2 * ((j + 1 : Nat) : Int) by omega], _, _, rfl, rfl, by show can .f64 c3 = _; rw [x3.out, x2.out, x1.out, hq.out, hk.out]; rfl⟩
          case measure => simp [intOf]; omega
        · obtain rfl : j = 8 := by omega
          go_wp2_with (first | ((with_reducible refine upon_bin rfl ?_); intro _ _ _ _) | ((with_reducible refine upon_sqrt ?_); intro _ _ _ _) | go_in)
          rename_i f1 o1 i1 y1 f2 o2 i2 y2 f3 o3 i3 y3
          go_ret
          exact fpost (by rw [y3.out, y2.out, y1.out, hq.out, eu.out, hp.out]; rfl) i3

def angC (t : Option Nat) (over sx sy : Bool) : Option Nat :=
  let a := angF t
  let b := if over = true then fop .sub .f64 (can .f64 4598175219545276416) a else a
  let c := if sx = true then fop .sub .f64 (can .f64 4602678819172646912) b else b
  if sy = true then fneg .f64 c else c
def tanF (y x : Nat) (over : Bool) : Option Nat := if over = true then fop .quo .f64 (can .f64 (absW x)) (can .f64 (absW y)) else fop .quo .f64 (can .f64 (absW y)) (can .f64 (absW x))

theorem abs_any2 (x : Nat) (hx : WF .f64 x) (w : World) :
    Calls Tryd.prog 51 #[.float .f64 x] w fun e w' => e = .returned (.float .f64 (absW x)) ∧ w = w' :=
  (abs_any x hx w).mono fun _ _ ⟨h1, h2⟩ => ⟨h1, h2.symm⟩


end Go.Proofs.YtckhdbnoihieeaaDoor
