/-
  What is proved here: numbers between drawn ones, of both packages, as walks; the law OctaveAt. Conditions: none but those that each theorem names.
-/
import Derived.Test.YtalinjggodmijaaLat
import Derived.Test.YtalinjggodmijaaFlo
import Derived.Test.YtalinjggodmijaaSid
namespace Go.Proofs.Ytalinjggodmijaa
open Flt Go.RowKit

/-- of a number its greatest integer, and how both packages come to it -/
structure Flo (x y : Nat) (i : Int) : Prop where
  wid : floatToFloatBits .f32 x .f64 = some y
  int : floatToIntVal .f32 x .i64 = some i
  num : ∃ s m p, FloatKind.f64.format.read y = .number s m p
  fl : floatToIntVal .f64 (floorW y) .i64 = some i
  lo : 0 ≤ i
  hi : i ≤ 1000000

theorem flo_of {x : Nat} (h : x % FloatKind.f32.format.signWeight < FloatKind.f32.format.infRung) (hs : (x / FloatKind.f32.format.signWeight % 2 == 1) = false) (hb : flo x ≤ 1000000) : ∃ y i, Flo x y i := by
  obtain ⟨y, hy, _, hn⟩ := widen_finite h
  have hx : nanW .f32 x = false := nanW_of_le (Nat.le_of_lt h)
  have hc : can .f64 y = Flt.wid (can .f32 x) := by rw [can_num hn, can_num hx]; exact hy.symm
  obtain ⟨h1, h2⟩ := floor_flo h hs (by omega) hc
  exact ⟨y, flo x, hy, int_flo h hs (by omega), h1, h2, by omega, by omega⟩

theorem flo_zero : Flo 2147483648 9223372036854775808 0 := by
  refine ⟨by decide +kernel, by decide +kernel, ⟨true, 0, -1074, by decide +kernel⟩, by decide +kernel, by decide, by decide⟩

def geO (o : Option Ordering) : Bool := match o with | some .gt => true | some .eq => true | _ => false
def leO (o : Option Ordering) : Bool := match o with | some .lt => true | some .eq => true | _ => false
/-- from 0 to 1000 -/
def placeB (x : Nat) : Bool := geO (FloatKind.f32.format.order x 0) && leO (FloatKind.f32.format.order x 1148846080)

theorem flo_1000 : V FloatKind.f32.format.binade 1148846080 / 2 ^ 149 = 1000 := by rw [bi32]; decide +kernel

theorem place_flo {x : Nat} (hw : WF .f32 x) (h : placeB x = true) : ∃ y i, Flo x y i := by
  unfold placeB at h
  rw [Bool.and_eq_true] at h
  obtain ⟨h1, h2⟩ := h
  have hn : nanW .f32 x = false := by
    cases hn : nanW .f32 x with
    | false => rfl
    | true => rw [show FloatKind.f32.format.order x 0 = none from order_nan_left hn] at h1; cases h1
  have hl := hw.lt32
  have hs : ¬ side .f32 x = .lt := fun e => by rw [ord0 hn, e] at h1; cases h1
  have hle : x % FloatKind.f32.format.signWeight ≤ FloatKind.f32.format.infRung := Nat.le_of_not_lt fun hc => by rw [nanW_of_lt hc] at hn; cases hn
  by_cases hz : x < 2147483648
  · have em : x % FloatKind.f32.format.signWeight = x := Nat.mod_eq_of_lt (by rw [sw32]; exact hz)
    rw [em] at hle
    rw [order_pos hle (by rw [inf32]; decide)] at h2
    have hb : x ≤ 1148846080 := by
      rcases Nat.lt_trichotomy x 1148846080 with g | g | g
      · omega
      · omega
      · simp only [compare, compareOfLessAndEq] at h2
        rw [if_neg (by omega), if_neg (by omega)] at h2
        cases h2
    refine flo_of (by rw [em, inf32]; omega) ?_ ?_
    · rw [sw32, Nat.div_eq_of_lt hz]; rfl
    · unfold flo
      rw [em]
      have := Nat.div_le_div_right (c := 2 ^ 149) (V_le (B := FloatKind.f32.format.binade) (Nat.two_pow_pos _) hb)
      rw [flo_1000] at this
      omega
  · have e : x = 2147483648 := by
      unfold side at hs
      rw [sw32] at hs
      by_cases h0 : x % 2147483648 = 0
      · omega
      · rw [if_neg h0, if_pos (by have : x / 2147483648 = 1 := by omega
                                  rw [this]; rfl)] at hs
        exact absurd rfl hs
    subst e
    exact ⟨_, _, flo_zero⟩

theorem ord4 (o : Option Ordering) : o = none ∨ o = some .lt ∨ o = some .eq ∨ o = some .gt := by
  cases o with
  | none => exact .inl rfl
  | some o => cases o <;> simp
def fromB (x lo hi : Nat) : Bool := geO (FloatKind.f32.format.order x lo) && leO (FloatKind.f32.format.order x hi)

theorem placeS_any (x : Nat) (w : World) : Calls Try.prog 66 #[.float .f32 x] w fun e w' => e = .returned (.bool (placeB x)) ∧ w = w' := by
  have N : Hid (placeB x = (geO (FloatKind.f32.format.order x 0) && leO (FloatKind.f32.format.order x 1148846080))) := rfl
  rcases ord4 (FloatKind.f32.format.order x 0) with h | h | h | h <;> rcases ord4 (FloatKind.f32.format.order x 1148846080) with g | g | g | g
  all_goals
    have N2 := N.out
    rw [h, g] at N2
    have N3 := Lib.hid N2
    clear N N2
    go_enter Try.func66, Try.ntmps66
    go_wp2
    go_ret
    exact ⟨by rw [N3.out]; rfl, rfl⟩

theorem from_any (x lo hi : Nat) (w : World) : Calls Try.prog 68 #[.float .f32 x, .float .f32 lo, .float .f32 hi] w fun e w' => e = .returned (.bool (fromB x lo hi)) ∧ w = w' := by
  have N : Hid (fromB x lo hi = (geO (FloatKind.f32.format.order x lo) && leO (FloatKind.f32.format.order x hi))) := rfl
  rcases ord4 (FloatKind.f32.format.order x lo) with h | h | h | h <;> rcases ord4 (FloatKind.f32.format.order x hi) with g | g | g | g
  all_goals
    have N2 := N.out
    rw [h, g] at N2
    have N3 := Lib.hid N2
    clear N N2
    go_enter Try.func68, Try.ntmps68
    go_wp2
    go_ret
    exact ⟨by rw [N3.out]; rfl, rfl⟩

/-- a share that begins and ends slowly -/
def smoF (f : Option Nat) : Option Nat := fop .mul .f32 (fop .mul .f32 f f) (fop .sub .f32 (can .f32 1077936128) (fop .mul .f32 (can .f32 1073741824) f))
/-- a share of the way -/
def betF (x y s : Option Nat) : Option Nat := fop .add .f32 x (fop .mul .f32 s (fop .sub .f32 y x))

theorem specSmooth (g : Nat) (w : World) : Calls Try.prog 99 #[.float .f32 g] w (FPost .f32 (smoF (can .f32 g)) w) := by
  go_enter Try.func99, Try.ntmps99
  go_wp2_with ((with_reducible refine upon_bin rfl ?_); intro _ _ _ _)
  rename_i r1 n1 w1 e1 r2 n2 w2 e2 r3 n3 w3 e3 r4 n4 w4 e4
  go_ret
  exact fpost (by rw [e4.out, e1.out, e3.out, e2.out]; rfl) w4
theorem implSmooth (g : Nat) (w : World) : Calls Try.prog 100 #[.float .f32 g] w (FPost .f32 (smoF (can .f32 g)) w) := by
  go_enter Try.func100, Try.ntmps100
  go_wp2_with ((with_reducible refine upon_bin rfl ?_); intro _ _ _ _)
  rename_i r1 n1 w1 e1 r2 n2 w2 e2 r3 n3 w3 e3 r4 n4 w4 e4
  go_ret
  exact fpost (by rw [e4.out, e1.out, e3.out, e2.out]; rfl) w4

theorem between_any (x y s : Nat) (w : World) : Calls Try.prog 101 #[.float .f32 x, .float .f32 y, .float .f32 s] w (FPost .f32 (betF (can .f32 x) (can .f32 y) (can .f32 s)) w) := by
  go_enter Try.func101, Try.ntmps101
  go_wp2_with ((with_reducible refine upon_bin rfl ?_); intro _ _ _ _)
  rename_i r1 n1 w1 e1 r2 n2 w2 e2 r3 n3 w3 e3
  go_ret
  exact fpost (by rw [e3.out, e2.out, e1.out]; rfl) w3

/-- between the drawn numbers of four places -/
def octF (s i j : Int) (cx cy : Option Nat) : Option Nat :=
  betF (betF (latF s i j) (latF s (i + 1) j) (smoF (fop .sub .f32 cx (can .f32 (floatOfInt .f32 i)))))
    (betF (latF s i (j + 1)) (latF s (i + 1) (j + 1)) (smoF (fop .sub .f32 cx (can .f32 (floatOfInt .f32 i)))))
    (smoF (fop .sub .f32 cy (can .f32 (floatOfInt .f32 j))))

theorem run_w32 {x y : Nat} (h : floatToFloatBits .f32 x .f64 = some y) : ∀ W, (convert 32 40 (.float .f32 x)).run Try.prog W = .ok (.float .f64 y) W :=
  fun W => run_convert_float_float W 32 40 .f32 .f64 x y (by kernel_rfl) (by kernel_rfl) h
theorem run_i32 {x : Nat} {n : Int} (h : floatToIntVal .f32 x .i64 = some n) : ∀ W, (convert 32 2 (.float .f32 x)).run Try.prog W = .ok (.int .i64 n) W :=
  fun W => run_convert_float_int W 32 2 .f32 .i64 x n (by kernel_rfl) (by kernel_rfl) h
theorem run_i64 {x : Nat} {n : Int} (h : floatToIntVal .f64 x .i64 = some n) : ∀ W, (convert 40 2 (.float .f64 x)).run Try.prog W = .ok (.int .i64 n) W :=
  fun W => run_convert_float_int W 40 2 .f64 .i64 x n (by kernel_rfl) (by kernel_rfl) h

theorem floor_run (v : Nat) (hr : ∃ s m p, FloatKind.f64.format.read v = .number s m p) (w : World) : (callFunc 112 #[.float .f64 v]).run Try.prog w = .ok (.value (.float .f64 (floorW v))) w := by
  obtain ⟨s, m, p, hr⟩ := hr
  rw [run_callFunc_extern Try.func112 (by kernel_rfl) (by kernel_rfl) (by kernel_rfl) (e := Extern.MathFloor.toIntegral "math.archFloor" .down) (by kernel_rfl)]
  have hd : FloatKind.f64.decode v = .number s m p := hr
  have hf : floorW v = FloatKind.f64.encode ((Ieee.Datum.number s m p).integral .down) := by unfold floorW; rw [hd]
  rw [hf]
  show Result.andThen (Sem.run Try.prog (match FloatKind.f64.decode v with | .nan s t => _ | d => pure (Value.float .f64 (FloatKind.f64.encode (d.integral .down)))) w) _ = _
  rw [hd]
  rfl

theorem floor_any (v : Nat) (hr : ∃ s m p, FloatKind.f64.format.read v = .number s m p) (w : World) :
    Calls Try.prog 98 #[.float .f64 v] w fun e w' => e = .returned (.float .f64 (floorW v)) ∧ w = w' := by
  have h := fun w => floor_run v hr w
  clear hr
  go_enter Try.func98, Try.ntmps98
  go_wp2
  go_ret
  exact ⟨rfl, rfl⟩

set_option maxHeartbeats 1000000 in
theorem specOct (s : Int) (x y X Y : Nat) (i j : Int) (hx : Flo x X i) (hy : Flo y Y j) (h0 : 0 ≤ s) (h1 : s ≤ 2147483647) (w : World) :
    Calls Try.prog 67 #[.int .i64 s, .float .f32 x, .float .f32 y] w (FPost .f32 (octF s i j (can .f32 x) (can .f32 y)) w) := by
  obtain ⟨a1, a2, a3, a4, a5, a6⟩ := hx
  obtain ⟨b1, b2, b3, b4, b5, b6⟩ := hy
  have r1 := run_w32 a1
  have r2 := run_w32 b1
  have r3 := run_i64 a4
  have r4 := run_i64 b4
  have A3 := Lib.hid a3
  have B3 := Lib.hid b3
  have a7 : 0 ≤ i + 1 := by omega
  have a8 : i + 1 ≤ 1000001 := by omega
  have a9 : i ≤ 1000001 := by omega
  have b7 : 0 ≤ j + 1 := by omega
  have b8 : j + 1 ≤ 1000001 := by omega
  have b9 : j ≤ 1000001 := by omega
  clear a1 a2 a3 a4 b1 b2 b3 b4
  go_enter Try.func67, Try.ntmps67
  go_wp2_with (first | (go_at_call 98; (first | (with_reducible refine (floor_any _ A3.out _).mono ?_) | (with_reducible refine (floor_any _ B3.out _).mono ?_)); rintro e w' ⟨rfl, rfl⟩) | (go_at_call 99; refine (specSmooth _ _).mono ?_; rintro e w' ⟨u, nu, rfl, rfl, hu, hwu⟩) | (go_at_call 62; refine (specLat _ _ _ h0 h1 (by assumption) (by assumption) (by assumption) (by assumption) _).mono ?_; rintro e w' ⟨g, n, rfl, rfl, hc, hg⟩) | ((with_reducible refine upon_bin rfl ?_); intro _ _ _ _))
  go_ret
  refine fpost ?_ (by assumption)
  simp only [Hid] at *
  simp only [octF, betF, *]

set_option maxHeartbeats 1000000 in
theorem implOct (s : Int) (x y X Y : Nat) (i j : Int) (hx : Flo x X i) (hy : Flo y Y j) (h0 : 0 ≤ s) (h1 : s ≤ 2147483647) (w : World) :
    Calls Try.prog 69 #[.int .i64 s, .float .f32 x, .float .f32 y] w (FPost .f32 (octF s i j (can .f32 x) (can .f32 y)) w) := by
  obtain ⟨a1, a2, a3, a4, a5, a6⟩ := hx
  obtain ⟨b1, b2, b3, b4, b5, b6⟩ := hy
  have r3 := run_i32 a2
  have r4 := run_i32 b2
  have a7 : 0 ≤ i + 1 := by omega
  have a8 : i + 1 ≤ 1000001 := by omega
  have a9 : i ≤ 1000001 := by omega
  have b7 : 0 ≤ j + 1 := by omega
  have b8 : j + 1 ≤ 1000001 := by omega
  have b9 : j ≤ 1000001 := by omega
  clear a1 a2 a3 a4 b1 b2 b3 b4
  go_enter Try.func69, Try.ntmps69
  go_wp2_with (first | (go_at_call 100; refine (implSmooth _ _).mono ?_; rintro e w' ⟨u, nu, rfl, rfl, hu, hwu⟩) | (go_at_call 101; refine (between_any _ _ _ _).mono ?_; rintro e w' ⟨g, n, rfl, rfl, hc, hg⟩) | (go_at_call 65; refine (implLat _ _ _ h0 h1 (by assumption) (by assumption) (by assumption) (by assumption) _).mono ?_; rintro e w' ⟨g, n, rfl, rfl, hc, hg⟩) | ((with_reducible refine upon_bin rfl ?_); intro _ _ _ _))
  go_ret
  refine fpost ?_ (by assumption)
  simp only [Hid] at *
  simp only [octF, *]

def octB (s : Int) (x y : Nat) : Bool := seedB s && (placeB x && placeB y)
theorem octB_1 {s : Int} {x y : Nat} (h : seedB s = false) : octB s x y = false := by unfold octB; rw [h]; rfl
theorem octB_2 {s : Int} {x y : Nat} (h : placeB x = false) : octB s x y = false := by unfold octB; rw [h, Bool.false_and, Bool.and_false]
theorem octB_3 {s : Int} {x y : Nat} (h : placeB y = false) : octB s x y = false := by unfold octB; rw [h, Bool.and_false, Bool.and_false]
theorem placeI_any (x : Nat) (w : World) : Calls Try.prog 68 #[.float .f32 x, .float .f32 0, .float .f32 1148846080] w fun e w' => e = .returned (.bool (placeB x)) ∧ w = w' := from_any x 0 1148846080 w

set_option maxHeartbeats 1000000 in
theorem specOctNo (s : Int) (x y : Nat) (hb : octB s x y = false) (w : World) : Calls Try.prog 29 #[.int .i64 s, .float .f32 x, .float .f32 y] w (VPost (some 0) false w) := by
  have HX := Lib.hid (fun W => placeS_any x W)
  have HY := Lib.hid (fun W => placeS_any y W)
  have HS := Lib.hid (fun W => specSeed s W)
  cases h1 : seedB s
  · rw [h1] at HS
    clear h1 hb
    go_enter Try.func29, Try.ntmps29
    go_wp2_with (go_at_call 60; refine (HS.out _).mono ?_; rintro e w' ⟨rfl, rfl⟩)
    go_ret2
    exact vpost_no0
  cases h2 : placeB x
  · rw [h1] at HS
    rw [h2] at HX
    clear h1 h2 hb
    go_enter Try.func29, Try.ntmps29
    go_wp2_with (first | (go_at_call 60; refine (HS.out _).mono ?_; rintro e w' ⟨rfl, rfl⟩) | (go_at_call 66; refine (HX.out _).mono ?_; rintro e w' ⟨rfl, rfl⟩))
    go_ret2
    exact vpost_no0
  · have h3 : placeB y = false := by
      unfold octB at hb
      rw [h1, h2] at hb
      exact hb
    rw [h1] at HS
    rw [h2] at HX
    rw [h3] at HY
    clear h1 h2 h3 hb
    go_enter Try.func29, Try.ntmps29
    go_wp2_with (first | (go_at_call 60; refine (HS.out _).mono ?_; rintro e w' ⟨rfl, rfl⟩) | (go_at_call 66; (first | (with_reducible refine (HX.out _).mono ?_) | (with_reducible refine (HY.out _).mono ?_)); rintro e w' ⟨rfl, rfl⟩))
    go_ret2
    exact vpost_no0

set_option maxHeartbeats 1000000 in
theorem specOctYes (s : Int) (x y X Y : Nat) (i j : Int) (hx : Flo x X i) (hy : Flo y Y j) (hb : octB s x y = true) (w : World) : Calls Try.prog 29 #[.int .i64 s, .float .f32 x, .float .f32 y] w (VPost (octF s i j (can .f32 x) (can .f32 y)) true w) := by
  have HX := Lib.hid (fun W => placeS_any x W)
  have HY := Lib.hid (fun W => placeS_any y W)
  have HS := Lib.hid (fun W => specSeed s W)
  unfold octB at hb
  rw [Bool.and_eq_true, Bool.and_eq_true] at hb
  obtain ⟨h1, h2, h3⟩ := hb
  obtain ⟨a0, a1⟩ := inB_yes h1
  have HO := Lib.hid (fun W => specOct s x y X Y i j hx hy a0 a1 W)
  rw [h1] at HS
  rw [h2] at HX
  rw [h3] at HY
  clear h1 h2 h3 hx hy a0 a1
  go_enter Try.func29, Try.ntmps29
  go_wp2_with (first | (go_at_call 60; refine (HS.out _).mono ?_; rintro e w' ⟨rfl, rfl⟩) | (go_at_call 66; (first | (with_reducible refine (HX.out _).mono ?_) | (with_reducible refine (HY.out _).mono ?_)); rintro e w' ⟨rfl, rfl⟩) | (go_at_call 67; refine (HO.out _).mono ?_; rintro e w' ⟨g, n, rfl, rfl, hc, hg⟩))
  go_ret2
  exact vpost hc.out hg
set_option maxHeartbeats 1000000 in
theorem implOctNo (s : Int) (x y : Nat) (hb : octB s x y = false) (w : World) : Calls Try.prog 30 #[.int .i64 s, .float .f32 x, .float .f32 y] w (VPost (some 0) false w) := by
  have HX := Lib.hid (fun W => placeI_any x W)
  have HY := Lib.hid (fun W => placeI_any y W)
  have HS := Lib.hid (fun W => implSeed s W)
  cases h1 : seedB s
  · rw [h1] at HS
    clear h1 hb
    go_enter Try.func30, Try.ntmps30
    go_wp2_with (go_at_call 63; refine (HS.out _).mono ?_; rintro e w' ⟨rfl, rfl⟩)
    go_ret2
    exact vpost_no0
  cases h2 : placeB x
  · rw [h1] at HS
    rw [h2] at HX
    clear h1 h2 hb
    go_enter Try.func30, Try.ntmps30
    go_wp2_with (first | (go_at_call 63; refine (HS.out _).mono ?_; rintro e w' ⟨rfl, rfl⟩) | (go_at_call 68; refine (HX.out _).mono ?_; rintro e w' ⟨rfl, rfl⟩))
    go_ret2
    exact vpost_no0
  · have h3 : placeB y = false := by
      unfold octB at hb
      rw [h1, h2] at hb
      exact hb
    rw [h1] at HS
    rw [h2] at HX
    rw [h3] at HY
    clear h1 h2 h3 hb
    go_enter Try.func30, Try.ntmps30
    go_wp2_with (first | (go_at_call 63; refine (HS.out _).mono ?_; rintro e w' ⟨rfl, rfl⟩) | (go_at_call 68; (first | (with_reducible refine (HX.out _).mono ?_) | (with_reducible refine (HY.out _).mono ?_)); rintro e w' ⟨rfl, rfl⟩))
    go_ret2
    exact vpost_no0

set_option maxHeartbeats 1000000 in
theorem implOctYes (s : Int) (x y X Y : Nat) (i j : Int) (hx : Flo x X i) (hy : Flo y Y j) (hb : octB s x y = true) (w : World) : Calls Try.prog 30 #[.int .i64 s, .float .f32 x, .float .f32 y] w (VPost (octF s i j (can .f32 x) (can .f32 y)) true w) := by
  have HX := Lib.hid (fun W => placeI_any x W)
  have HY := Lib.hid (fun W => placeI_any y W)
  have HS := Lib.hid (fun W => implSeed s W)
  unfold octB at hb
  rw [Bool.and_eq_true, Bool.and_eq_true] at hb
  obtain ⟨h1, h2, h3⟩ := hb
  obtain ⟨a0, a1⟩ := inB_yes h1
  have HO := Lib.hid (fun W => implOct s x y X Y i j hx hy a0 a1 W)
  rw [h1] at HS
  rw [h2] at HX
  rw [h3] at HY
  clear h1 h2 h3 hx hy a0 a1
  go_enter Try.func30, Try.ntmps30
  go_wp2_with (first | (go_at_call 63; refine (HS.out _).mono ?_; rintro e w' ⟨rfl, rfl⟩) | (go_at_call 68; (first | (with_reducible refine (HX.out _).mono ?_) | (with_reducible refine (HY.out _).mono ?_)); rintro e w' ⟨rfl, rfl⟩) | (go_at_call 69; refine (HO.out _).mono ?_; rintro e w' ⟨g, n, rfl, rfl, hc, hg⟩))
  go_ret2
  exact vpost hc.out hg

theorem oct_both (s : Int) (x y : Nat) (hx : WF .f32 x) (hy : WF .f32 y) : ∃ c b, (∀ w, Calls Try.prog 29 #[.int .i64 s, .float .f32 x, .float .f32 y] w (VPost c b w)) ∧ (∀ w, Calls Try.prog 30 #[.int .i64 s, .float .f32 x, .float .f32 y] w (VPost c b w)) := by
  cases hb : octB s x y with
  | false => exact ⟨_, _, specOctNo s x y hb, implOctNo s x y hb⟩
  | true =>
    have h := hb
    unfold octB at h
    rw [Bool.and_eq_true, Bool.and_eq_true] at h
    obtain ⟨X, i, gx⟩ := place_flo hx h.2.1
    obtain ⟨Y, j, gy⟩ := place_flo hy h.2.2
    exact ⟨_, _, specOctYes s x y X Y i j gx gy hb, implOctYes s x y X Y i j gx gy hb⟩

theorem lawOct (s : Int) (x y : Nat) (hx : WF .f32 x) (hy : WF .f32 y) (w : World) :
    Calls Try.prog 7 #[.int .i64 s, .float .f32 x, .float .f32 y] w fun e w' => e = .returned (.bool true) ∧ ∃ n, w' = w.drewN n := by
  obtain ⟨c, b, h1, h2⟩ := oct_both s x y hx hy
  have H1 := Lib.hid h1
  have H2 := Lib.hid h2
  clear h1 h2
  go_enter Try.func7, Try.ntmps7
  go_wp2_with (first | (go_at_call 29; refine (H1.out _).mono ?_; rintro e w' ⟨g, n, rfl, rfl, hc, hg⟩) | (go_at_call 30; refine (H2.out _).mono ?_; rintro e w' ⟨g2, n2, rfl, rfl, hc2, hg2⟩) | (go_at_call 28; refine (sameFloat_any _ _ (wid_eq2 (by assumption) (by assumption) (by assumption) (by assumption)) _).mono ?_; rintro e w' ⟨rfl, n3, rfl⟩) | ((with_reducible refine upon_wid ?_ ?_ ?_); rotate_left 2; intro _ _ _ _; rotate_left 1; kernel_rfl; kernel_rfl))
  go_ret
  exact ⟨rfl, _, rfl⟩

end Go.Proofs.Ytalinjggodmijaa
