/-
  What is proved here: numbers between drawn ones, of both packages, as walks; the law OctaveAt. Conditions: none but those that each theorem names.
-/
import Derived.Test.YtnhcmloaanamnaaLat
import Derived.Test.YtnhcmloaanamnaaFlo
import Derived.Test.YtnhcmloaanamnaaSid
namespace Go.Proofs.Ytnhcmloaanamnaa
open Flt Go.RowKit

/-- of a number its greatest integer, and how both packages come to it -/
structure Flo (x y : Nat) (i : Int) : Prop where
  wid : floatToFloatBits .f32 x .f64 = some y
  int : floatToIntVal .f32 x .i64 = some i
  num : ∃ s m p, FloatKind.f64.format.read y = .number s m p
  fl : floatToIntVal .f64 (floorW y) .i64 = some i
  lo : 0 ≤ i
  hi : i ≤ 1000000

theorem flo_of {x : Nat} (h : x % FloatKind.f32.format.signWeight < FloatKind.f32.format.infRung) (hs : (x / FloatKind.f32.format.signWeight % 2 == 1) = false) (hb : flo x ≤ 1000000) : ∃ y i, Flo x y i := by
  obtain ⟨y, hy, _, hn⟩ := widen_finite h
  have hx : nanW .f32 x = false := nanW_of_le (Nat.le_of_lt h)
  have hc : can .f64 y = Flt.wid (can .f32 x) := by rw [can_num hn, can_num hx]; exact hy.symm
  obtain ⟨h1, h2⟩ := floor_flo h hs (by omega) hc
  exact ⟨y, flo x, hy, int_flo h hs (by omega), h1, h2, by omega, by omega⟩

theorem flo_zero : Flo 2147483648 9223372036854775808 0 := by
  refine ⟨by decide +kernel, by decide +kernel, ⟨true, 0, -1074, by decide +kernel⟩, by decide +kernel, by decide, by decide⟩

def geO (o : Option Ordering) : Bool := match o with | some .gt => true | some .eq => true | _ => false
def leO (o : Option Ordering) : Bool := match o with | some .lt => true | some .eq => true | _ => false
/-- from 0 to 1000 -/
def placeB (x : Nat) : Bool := geO (FloatKind.f32.format.order x 0) && leO (FloatKind.f32.format.order x 1148846080)

theorem flo_1000 : V FloatKind.f32.format.binade 1148846080 / 2 ^ 149 = 1000 := by rw [bi32]; decide +kernel

theorem place_flo {x : Nat} (hw : WF .f32 x) (h : placeB x = true) : ∃ y i, Flo x y i := by
  unfold placeB at h
  rw [Bool.and_eq_true] at h
  obtain ⟨h1, h2⟩ := h
  have hn : nanW .f32 x = false := by
    cases hn : nanW .f32 x with
    | false => rfl
    | true => rw [show FloatKind.f32.format.order x 0 = none from order_nan_left hn] at h1; cases h1
  have hl := hw.lt32
  have hs : ¬ side .f32 x = .lt := fun e => by rw [ord0 hn, e] at h1; cases h1
  have hle : x % FloatKind.f32.format.signWeight ≤ FloatKind.f32.format.infRung := Nat.le_of_not_lt fun hc => by rw [nanW_of_lt hc] at hn; cases hn
  by_cases hz : x < 2147483648
  · have em : x % FloatKind.f32.format.signWeight = x := Nat.mod_eq_of_lt (by rw [sw32]; exact hz)
    rw [em] at hle
    rw [order_pos hle (by rw [inf32]; decide)] at h2
    have hb : x ≤ 1148846080 := by
      rcases Nat.lt_trichotomy x 1148846080 with g | g | g
      · omega
      · omega
      · simp only [compare, compareOfLessAndEq] at h2
        rw [if_neg (by omega), if_neg (by omega)] at h2
        cases h2
    refine flo_of (by rw [em, inf32]; omega) ?_ ?_
    · rw [sw32, Nat.div_eq_of_lt hz]; rfl
    · unfold flo
      rw [em]
      have := Nat.div_le_div_right (c := 2 ^ 149) (V_le (B := FloatKind.f32.format.binade) (Nat.two_pow_pos _) hb)
      rw [flo_1000] at this
      omega
  · have e : x = 2147483648 := by
      unfold side at hs
      rw [sw32] at hs
      by_cases h0 : x % 2147483648 = 0
      · omega
      · rw [if_neg h0, if_pos (by have : x / 2147483648 = 1 := by omega
                                  rw [this]; rfl)] at hs
        exact absurd rfl hs
    subst e
    exact ⟨_, _, flo_zero⟩

theorem ord4 (o : Option Ordering) : o = none ∨ o = some .lt ∨ o = some .eq ∨ o = some .gt := by
  cases o with
  | none => exact .inl rfl
  | some o => cases o <;> simp
def fromB (x lo hi : Nat) : Bool := geO (FloatKind.f32.format.order x lo) && leO (FloatKind.f32.format.order x hi)


theorem from_any (x lo hi : Nat) (w : World) : Calls Try.prog 62 #[.float .f32 x, .float .f32 lo, .float .f32 hi] w fun e w' => e = .returned (.bool (fromB x lo hi)) ∧ w = w' := by
  have N : Hid (fromB x lo hi = (geO (FloatKind.f32.format.order x lo) && leO (FloatKind.f32.format.order x hi))) := rfl
  rcases ord4 (FloatKind.f32.format.order x lo) with h | h | h | h <;> rcases ord4 (FloatKind.f32.format.order x hi) with g | g | g | g
  all_goals
    have N2 := N.out
    rw [h, g] at N2
    have N3 := Lib.hid N2
    clear N N2
    go_enter Try.func62, Try.ntmps62
    go_wp2
    go_ret
    exact ⟨by rw [N3.out]; rfl, rfl⟩

/-- a share that begins and ends slowly -/
def smoF (f : Option Nat) : Option Nat := fop .mul .f32 (fop .mul .f32 f f) (fop .sub .f32 (can .f32 1077936128) (fop .mul .f32 (can .f32 1073741824) f))
/-- a share of the way -/
def betF (x y s : Option Nat) : Option Nat := fop .add .f32 x (fop .mul .f32 s (fop .sub .f32 y x))



/-- between the drawn numbers of four places -/
def octF (s i j : Int) (cx cy : Option Nat) : Option Nat :=
  betF (betF (latF s i j) (latF s (i + 1) j) (smoF (fop .sub .f32 cx (can .f32 (floatOfInt .f32 i)))))
    (betF (latF s i (j + 1)) (latF s (i + 1) (j + 1)) (smoF (fop .sub .f32 cx (can .f32 (floatOfInt .f32 i)))))
    (smoF (fop .sub .f32 cy (can .f32 (floatOfInt .f32 j))))

theorem run_w32 {x y : Nat} (h : floatToFloatBits .f32 x .f64 = some y) : ∀ W, (convert 34 38 (.float .f32 x)).run Try.prog W = .ok (.float .f64 y) W :=
  fun W => run_convert_float_float W 34 38 .f32 .f64 x y (by kernel_rfl) (by kernel_rfl) h
theorem run_i32 {x : Nat} {n : Int} (h : floatToIntVal .f32 x .i64 = some n) : ∀ W, (convert 34 2 (.float .f32 x)).run Try.prog W = .ok (.int .i64 n) W :=
  fun W => run_convert_float_int W 34 2 .f32 .i64 x n (by kernel_rfl) (by kernel_rfl) h
theorem run_i64 {x : Nat} {n : Int} (h : floatToIntVal .f64 x .i64 = some n) : ∀ W, (convert 38 2 (.float .f64 x)).run Try.prog W = .ok (.int .i64 n) W :=
  fun W => run_convert_float_int W 38 2 .f64 .i64 x n (by kernel_rfl) (by kernel_rfl) h




def octB (s : Int) (x y : Nat) : Bool := seedB s && (placeB x && placeB y)
theorem octB_1 {s : Int} {x y : Nat} (h : seedB s = false) : octB s x y = false := by unfold octB; rw [h]; rfl
theorem octB_2 {s : Int} {x y : Nat} (h : placeB x = false) : octB s x y = false := by unfold octB; rw [h, Bool.false_and, Bool.and_false]
theorem octB_3 {s : Int} {x y : Nat} (h : placeB y = false) : octB s x y = false := by unfold octB; rw [h, Bool.and_false, Bool.and_false]
theorem placeI_any (x : Nat) (w : World) : Calls Try.prog 62 #[.float .f32 x, .float .f32 0, .float .f32 1148846080] w fun e w' => e = .returned (.bool (placeB x)) ∧ w = w' := from_any x 0 1148846080 w







end Go.Proofs.Ytnhcmloaanamnaa
