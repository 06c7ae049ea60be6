/-
  What is proved here: the logarithm of a positive number as a walk, whatever is drawn. Conditions: the number's word lies between those of 2 ^ -152 and 2 ^ 129.
-/
import Derived.Test.YthhimielelpcoaaNum
import Derived.LoopTactic
import Derived.Outline
import Derived.Test.YthhimielelpcoaaLogA
namespace Go.Proofs.Ythhimielelpcoaa
open Flt Go.RowKit

theorem ord_gt {x c : Nat} (hx : x ≤ 9218868437227405312) (h : c < x) : FloatKind.f64.format.order x c = some .gt := by
  rw [order_pos (by rw [inf64]; exact hx) (by rw [inf64]; omega)]
  simp only [compare, compareOfLessAndEq]; rw [if_neg (by omega), if_neg (by omega)]
theorem ord_eq {x : Nat} (hx : x ≤ 9218868437227405312) : FloatKind.f64.format.order x x = some .eq := by
  rw [order_pos (by rw [inf64]; exact hx) (by rw [inf64]; exact hx)]
  simp [compare, compareOfLessAndEq]
theorem ord_lt {x c : Nat} (hc : c ≤ 9218868437227405312) (h : x < c) : FloatKind.f64.format.order x c = some .lt := by
  rw [order_pos (by rw [inf64]; omega) (by rw [inf64]; exact hc)]
  simp only [compare, compareOfLessAndEq]; rw [if_pos h]

/-- how often it is halved; what it is then; how often that is doubled; what it is then -/
def hCnt (y : Nat) : Nat := (y + 4503599627370496 - 4609434218613702656) / 4503599627370496
def hX (y j : Nat) : Nat := y - j * 4503599627370496
def hW (y : Nat) : Nat := hX y (hCnt y)
def dCnt (x : Nat) : Nat := (4604930618986332160 - x + 4503599627370495) / 4503599627370496
def dX (x j : Nat) : Nat := x + j * 4503599627370496
def nW (y : Nat) : Nat := dX (hW y) (dCnt (hW y))
def nE (y : Nat) : Int := (hCnt y : Int) - (dCnt (hW y) : Int)

/-- the words that are taken: from 2 ^ -153 to 2 ^ 129 -/
structure Rng (y : Nat) : Prop where
  lo : 3918131675812331520 ≤ y
  hi : y ≤ 5188146770730811392

theorem hX_zero (y : Nat) : hX y 0 = y := by unfold hX; omega
theorem dX_zero (y : Nat) : dX y 0 = y := by unfold dX; omega

theorem h_more {y j : Nat} (r : Rng y) (h : j < hCnt y) : floatBits .quo .f64 (hX y j) 4611686018427387904 = some (hX y (j + 1)) ∧
    (FloatKind.f64.format.order (hX y j) 4609434218613702656 = some .gt ∨ FloatKind.f64.format.order (hX y j) 4609434218613702656 = some .eq) ∧ j < 1200 ∧ j + 1 ≤ hCnt y := by
  obtain ⟨h1, h2⟩ := r
  unfold hCnt at h ⊢
  have e : hX y (j + 1) = hX y j - 4503599627370496 := by unfold hX; omega
  have hx : 4609434218613702656 ≤ hX y j := by unfold hX; omega
  have hx2 : hX y j ≤ 5188146770730811392 := by unfold hX; omega
  refine ⟨by rw [e]; exact halve (by omega) (by omega), ?_, by omega, by omega⟩
  rcases Nat.lt_or_eq_of_le hx with hg | he
  · exact .inl (ord_gt (by omega) hg)
  · right; rw [← he]; exact ord_eq (by decide)

theorem h_stop {y j : Nat} (r : Rng y) (h : ¬ j < hCnt y) (hj : j ≤ hCnt y) : FloatKind.f64.format.order (hX y j) 4609434218613702656 = some .lt ∧ j = hCnt y ∧ j < 1200 := by
  obtain ⟨h1, h2⟩ := r
  have he : j = hCnt y := by omega
  have hb : j < 1200 := by unfold hCnt at he; omega
  refine ⟨ord_lt (by decide) ?_, he, hb⟩
  unfold hCnt at he
  unfold hX; omega

/-- the words behind the halving -/
structure Rng2 (x : Nat) : Prop where
  lo : 3918131675812331520 ≤ x
  hi : x < 4609434218613702656

theorem rng2 {y : Nat} (r : Rng y) : Rng2 (hW y) := by
  obtain ⟨h1, h2⟩ := r
  constructor
  · unfold hW hX hCnt; omega
  · unfold hW hX hCnt; omega

theorem d_more {x j : Nat} (r : Rng2 x) (h : j < dCnt x) : floatBits .mul .f64 (dX x j) 4611686018427387904 = some (dX x (j + 1)) ∧ FloatKind.f64.format.order (dX x j) 4604930618986332160 = some .lt ∧ j < 1200 ∧ j + 1 ≤ dCnt x := by
  obtain ⟨h1, h2⟩ := r
  unfold dCnt at h ⊢
  have e : dX x (j + 1) = dX x j + 4503599627370496 := by unfold dX; omega
  have hx : dX x j < 4604930618986332160 := by unfold dX; omega
  have hx2 : 3918131675812331520 ≤ dX x j := by unfold dX; omega
  exact ⟨by rw [e]; exact double (by omega) (by omega), ord_lt (by decide) hx, by omega, by omega⟩

theorem d_stop {x j : Nat} (r : Rng2 x) (h : ¬ j < dCnt x) (hj : j ≤ dCnt x) : (FloatKind.f64.format.order (dX x j) 4604930618986332160 = some .gt ∨ FloatKind.f64.format.order (dX x j) 4604930618986332160 = some .eq) ∧ j = dCnt x ∧ j < 1200 := by
  obtain ⟨h1, h2⟩ := r
  have he : j = dCnt x := by omega
  have hb : j < 1200 := by unfold dCnt at he; omega
  refine ⟨?_, he, hb⟩
  have hx : 4604930618986332160 ≤ dX x j := by unfold dCnt at he; unfold dX; omega
  have hx2 : dX x j ≤ 9218868437227405312 := by unfold dCnt at he; unfold dX; omega
  rcases Nat.lt_or_eq_of_le hx with hg | he
  · exact .inl (ord_gt hx2 hg)
  · right; rw [← he]; exact ord_eq (by decide)

/-- what is left lies from 0.75 to 1.5 -/
theorem nW_bd {y : Nat} (r : Rng y) : 4604930618986332160 ≤ nW y ∧ nW y < 4609434218613702656 := by
  obtain ⟨h1, h2⟩ := rng2 r
  unfold nW
  generalize hW y = x at *
  unfold dX dCnt
  constructor <;> omega
theorem nE_bd {y : Nat} (r : Rng y) : (nE y).natAbs ≤ 2048 := by
  have h := rng2 r
  obtain ⟨h1, h2⟩ := r
  obtain ⟨g1, g2⟩ := h
  have a : hCnt y ≤ 1000 := by unfold hCnt; omega
  have b : dCnt (hW y) ≤ 1000 := by unfold dCnt; omega
  unfold nE; omega

/-- the series: how many rounds have been made -/
def polyL (u : Option Nat) : Nat → Option Nat
  | 0 => can .f64 0
  | j + 1 => fop .add .f64 (fop .quo .f64 (can .f64 4607182418800017408) (can .f64 (floatOfInt .f64 ((25 - 2 * j : Nat) : Int)))) (fop .mul .f64 u (polyL u j))
def logF (x : Nat) (e : Int) : Option Nat :=
  let s := fop .quo .f64 (fop .sub .f64 (can .f64 x) (can .f64 4607182418800017408)) (fop .add .f64 (can .f64 x) (can .f64 4607182418800017408))
  let u := fop .mul .f64 s s
  fop .add .f64 (fop .mul .f64 (can .f64 4611686018427387904) (fop .mul .f64 s (polyL u 13))) (fop .mul .f64 (can .f64 (floatOfInt .f64 e)) (can .f64 4604418534313441775))

set_option maxHeartbeats 1000000 in
theorem log_any (y : Nat) (r : Rng y) (w : World) : Calls Try.prog 204 #[.float .f64 y] w (FPost .f64 (logF (nW y) (nE y)) w) := by
  go_enter Try.func204, Try.ntmps204
  go_wp2
  go_loop [0, 3] (fun x e => ∃ j : Nat, j ≤ hCnt y ∧ x = .float .f64 (hX y j) ∧ e = .int .i64 j) (fun _ e => 1200 - (intOf e).toNat)
  case atStart => exact ⟨0, Nat.zero_le _, by rw [hX_zero], rfl⟩
  case round =>
    obtain ⟨j, hj, rfl, rfl⟩ := hrel
    by_cases hlt : j < hCnt y
    · obtain ⟨m1, m2, m3, m4⟩ := h_more r hlt
      have hrun : ∀ w, (binOp .quo 48 (.float .f64 (hX y j)) (.float .f64 4611686018427387904)).run Try.prog w = .ok (.float .f64 (hX y (j + 1))) w := fun w => run_float_arith w .quo 48 .f64 _ _ _ m1
      have hb : (j : Int) ≤ 1200 := by omega
      clear m1 hlt hj
      rcases m2 with ho | ho
      all_goals
        go_wp2
        go_round
        case rel => exact ⟨j + 1, m4, rfl, by go_num⟩
        case measure => simp [intOf]; omega
    · obtain ⟨ho, hje, hjb⟩ := h_stop r hlt hj
      have hb : (j : Int) ≤ 1200 := by omega
      clear hlt hj
      subst hje
      rw [show hX y (hCnt y) = hW y from rfl] at ho ⊢
      have r2 := rng2 r
      go_wp2
      clear ho
      go_loop [0, 3] (fun x e => ∃ j : Nat, j ≤ dCnt (hW y) ∧ x = .float .f64 (dX (hW y) j) ∧ e = .int .i64 ((hCnt y : Int) - (j : Int))) (fun _ e => (2400 + intOf e).toNat)
      case atStart => exact ⟨0, Nat.zero_le _, by rw [dX_zero], by simp⟩
      case round =>
        obtain ⟨j, hj, rfl, rfl⟩ := hrel
        by_cases hlt : j < dCnt (hW y)
        · obtain ⟨m1, ho, m3, m4⟩ := d_more r2 hlt
          have hrun : ∀ w, (binOp .mul 48 (.float .f64 (dX (hW y) j)) (.float .f64 4611686018427387904)).run Try.prog w = .ok (.float .f64 (dX (hW y) (j + 1))) w := fun w => run_float_arith w .mul 48 .f64 _ _ _ m1
          have hb1 : (-1200 : Int) ≤ (hCnt y : Int) - (j : Int) := by omega
          have hb2 : (hCnt y : Int) - (j : Int) ≤ 1200 := by omega
          clear m1 hlt hj
          go_wp2
          go_round
          case rel => exact ⟨j + 1, m4, rfl, by rw [show (hCnt y : Int) - (j : Int) - 1 = (hCnt y : Int) - ((j + 1 : Nat) : Int) by omega]⟩
          case measure => simp [intOf]; omega
        · obtain ⟨ho, hje, hjb2⟩ := d_stop r2 hlt hj
          clear hlt hj
          subst hje
          rw [show dX (hW y) (dCnt (hW y)) = nW y from rfl] at ho ⊢
          rw [show (hCnt y : Int) - (dCnt (hW y) : Int) = nE y from rfl]
          rcases ho with ho | ho
          all_goals
            go_wp2_with ((with_reducible refine upon_bin rfl ?_); intro _ _ _ _)
            rename_i a na wa ea b nb wb eb s ns ws es u nu wu eu Q K hK
            go_loopw [6, 7] (fun q k wr => ∃ j : Nat, j ≤ 13 ∧ k = .int .i64 ((25 : Int) - 2 * (j : Int)) ∧ ∃ qw nw, q = .float .f64 qw ∧ wr = w.drewN nw ∧ Hid (can .f64 qw = polyL (can .f64 u) j)) (fun _ k _ => (2 + intOf k).toNat)
            case atStart => exact ⟨0, by omega, rfl, _, _, rfl, rfl, rfl⟩
            case round =>
              obtain ⟨j, hj, rfl, qw, nw, rfl, rfl, hp⟩ := hrel
              by_cases hlt : j < 13
              · have h5 : (1 : Int) ≤ (25 : Int) - 2 * (j : Int) := by omega
                have h6 : (25 : Int) - 2 * (j : Int) ≤ 25 := by omega
                have hk : Hid ((25 : Int) - 2 * (j : Int) = ((25 - 2 * j : Nat) : Int)) := by show (25 : Int) - 2 * (j : Int) = ((25 - 2 * j : Nat) : Int); omega
                go_wp2_with ((with_reducible refine upon_bin rfl ?_); intro _ _ _ _)
                rename_i c1 m1 v1 x1 c2 m2 v2 x2 c3 m3 v3 x3
                go_roundw
                case rel => exact ⟨j + 1, by omega, by rw [show (25 : Int) - 2 * (j : Int) - 2 = (25 : Int) - 2 * ((j + 1 : Nat) : Int) by omega], _, _, rfl, rfl, by show can .f64 c3 = _; rw [x3.out, x2.out, x1.out, hp.out, hk.out]; rfl⟩
                case measure => simp [intOf]; omega
              · obtain rfl : j = 13 := by omega
                go_wp2_with ((with_reducible refine upon_bin rfl ?_); intro _ _ _ _)
                rename_i f1 o1 i1 y1 f2 o2 i2 y2 f3 o3 i3 y3 f4 o4 i4 y4
                go_ret
                refine fpost ?_ i4
                rw [y4.out, y3.out, y2.out, y1.out, hp.out, eu.out, es.out, eb.out, ea.out]; rfl

theorem isInf1_any (x : Nat) (w : World) :
    Calls Try.prog 151 #[.float .f64 x, .int .i64 1] w fun e w' => e = .returned (.bool (FloatKind.f64.format.order x 9218868437227405311 == some .gt)) ∧ w = w' := by
  go_enter Try.func151, Try.ntmps151
  go_wp2
  go_ret
  exact ⟨rfl, rfl⟩

theorem rng_tests {y : Nat} (r : Rng y) : (FloatKind.f64.format.order y y != some .eq) = false ∧ FloatKind.f64.format.order y 0 = some .gt ∧ FloatKind.f64.format.order y 9218868437227405311 = some .lt := by
  obtain ⟨h1, h2⟩ := r
  refine ⟨?_, ord_gt (by omega) (by omega), ord_lt (by decide) (by omega)⟩
  rw [self_ne]
  refine nanW_of_le ?_
  rw [sw64, inf64]; omega

set_option maxHeartbeats 1000000 in
theorem specLogWide (y : Nat) (r : Rng y) (w : World) : Calls Try.prog 117 #[.float .f64 y] w (FPost .f64 (logF (nW y) (nE y)) w) := by
  obtain ⟨t1, t2, t3⟩ := rng_tests r
  go_enter Try.func117, Try.ntmps117
  go_wp2_with (go_at_call 151; refine (isInf1_any _ _).mono ?_; rintro e w' ⟨rfl, rfl⟩)
  clear t1 t2 t3
  go_loop [0, 3] (fun x e => ∃ j : Nat, j ≤ hCnt y ∧ x = .float .f64 (hX y j) ∧ e = .int .i64 j) (fun _ e => 1200 - (intOf e).toNat)
  case atStart => exact ⟨0, Nat.zero_le _, by rw [hX_zero], rfl⟩
  case round =>
    obtain ⟨j, hj, rfl, rfl⟩ := hrel
    by_cases hlt : j < hCnt y
    · obtain ⟨m1, m2, m3, m4⟩ := h_more r hlt
      have hrun : ∀ w, (binOp .quo 48 (.float .f64 (hX y j)) (.float .f64 4611686018427387904)).run Try.prog w = .ok (.float .f64 (hX y (j + 1))) w := fun w => run_float_arith w .quo 48 .f64 _ _ _ m1
      have hb : (j : Int) ≤ 1200 := by omega
      clear m1 hlt hj
      rcases m2 with ho | ho
      all_goals
        go_wp2
        go_round
        case rel => exact ⟨j + 1, m4, rfl, by go_num⟩
        case measure => simp [intOf]; omega
    · obtain ⟨ho, hje, hjb⟩ := h_stop r hlt hj
      have hb : (j : Int) ≤ 1200 := by omega
      clear hlt hj
      subst hje
      rw [show hX y (hCnt y) = hW y from rfl] at ho ⊢
      have r2 := rng2 r
      go_wp2
      clear ho
      go_loop [0, 3] (fun x e => ∃ j : Nat, j ≤ dCnt (hW y) ∧ x = .float .f64 (dX (hW y) j) ∧ e = .int .i64 ((hCnt y : Int) - (j : Int))) (fun _ e => (2400 + intOf e).toNat)
      case atStart => exact ⟨0, Nat.zero_le _, by rw [dX_zero], by simp⟩
      case round =>
        obtain ⟨j, hj, rfl, rfl⟩ := hrel
        by_cases hlt : j < dCnt (hW y)
        · obtain ⟨m1, ho, m3, m4⟩ := d_more r2 hlt
          have hrun : ∀ w, (binOp .mul 48 (.float .f64 (dX (hW y) j)) (.float .f64 4611686018427387904)).run Try.prog w = .ok (.float .f64 (dX (hW y) (j + 1))) w := fun w => run_float_arith w .mul 48 .f64 _ _ _ m1
          have hb1 : (-1200 : Int) ≤ (hCnt y : Int) - (j : Int) := by omega
          have hb2 : (hCnt y : Int) - (j : Int) ≤ 1200 := by omega
          clear m1 hlt hj
          go_wp2
          go_round
          case rel => exact ⟨j + 1, m4, rfl, by rw [show (hCnt y : Int) - (j : Int) - 1 = (hCnt y : Int) - ((j + 1 : Nat) : Int) by omega]⟩
          case measure => simp [intOf]; omega
        · obtain ⟨ho, hje, hjb2⟩ := d_stop r2 hlt hj
          clear hlt hj
          subst hje
          rw [show dX (hW y) (dCnt (hW y)) = nW y from rfl] at ho ⊢
          rw [show (hCnt y : Int) - (dCnt (hW y) : Int) = nE y from rfl]
          rcases ho with ho | ho
          all_goals
            go_wp2_with ((with_reducible refine upon_bin rfl ?_); intro _ _ _ _)
            rename_i a na wa ea b nb wb eb s ns ws es u nu wu eu Q K hK
            go_loopw [6, 7] (fun q k wr => ∃ j : Nat, j ≤ 13 ∧ k = .int .i64 ((25 : Int) - 2 * (j : Int)) ∧ ∃ qw nw, q = .float .f64 qw ∧ wr = w.drewN nw ∧ Hid (can .f64 qw = polyL (can .f64 u) j)) (fun _ k _ => (2 + intOf k).toNat)
            case atStart => exact ⟨0, by omega, rfl, _, _, rfl, rfl, rfl⟩
            case round =>
              obtain ⟨j, hj, rfl, qw, nw, rfl, rfl, hp⟩ := hrel
              by_cases hlt : j < 13
              · have h5 : (1 : Int) ≤ (25 : Int) - 2 * (j : Int) := by omega
                have h6 : (25 : Int) - 2 * (j : Int) ≤ 25 := by omega
                have hk : Hid ((25 : Int) - 2 * (j : Int) = ((25 - 2 * j : Nat) : Int)) := by show (25 : Int) - 2 * (j : Int) = ((25 - 2 * j : Nat) : Int); omega
                go_wp2_with ((with_reducible refine upon_bin rfl ?_); intro _ _ _ _)
                rename_i c1 m1 v1 x1 c2 m2 v2 x2 c3 m3 v3 x3
                go_roundw
                case rel => exact ⟨j + 1, by omega, by rw [show (25 : Int) - 2 * (j : Int) - 2 = (25 : Int) - 2 * ((j + 1 : Nat) : Int) by omega], _, _, rfl, rfl, by show can .f64 c3 = _; rw [x3.out, x2.out, x1.out, hp.out, hk.out]; rfl⟩
                case measure => simp [intOf]; omega
              · obtain rfl : j = 13 := by omega
                go_wp2_with ((with_reducible refine upon_bin rfl ?_); intro _ _ _ _)
                rename_i f1 o1 i1 y1 f2 o2 i2 y2 f3 o3 i3 y3 f4 o4 i4 y4
                go_ret
                refine fpost ?_ i4
                rw [y4.out, y3.out, y2.out, y1.out, hp.out, eu.out, es.out, eb.out, ea.out]; rfl

end Go.Proofs.Ythhimielelpcoaa
