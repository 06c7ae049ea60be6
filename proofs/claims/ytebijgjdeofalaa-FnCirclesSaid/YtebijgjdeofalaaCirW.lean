/-
  What is proved here: the program's phasors, angles, powers, products and tenths at the words of the tables, and the law's gaps, as walks. Conditions: as each theorem names.
-/
import Derived.Test.YtebijgjdeofalaaCirA
import Derived.Test.YtebijgjdeofalaaSimA
import Derived.Test.YtebijgjdeofalaaByt
import Derived.Test.YtebijgjdeofalaaPhaB
namespace Go.Proofs.Ytebijgjdeofalaa
open Flt Go.RowKit

theorem run_w32 {x y : Nat} (h : floatToFloatBits .f32 x .f64 = some y) : ∀ W, (convert 38 29 (.float .f32 x)).run Try.prog W = .ok (.float .f64 y) W :=
  fun W => run_convert_float_float W 38 29 .f32 .f64 x y (by kernel_rfl) (by kernel_rfl) h
theorem run_n64 {x y : Nat} (h : floatToFloatBits .f64 x .f32 = some y) : ∀ W, (convert 29 38 (.float .f64 x)).run Try.prog W = .ok (.float .f32 y) W :=
  fun W => run_convert_float_float W 29 38 .f64 .f32 x y (by kernel_rfl) (by kernel_rfl) h
theorem run_i64 {x : Nat} {n : Int} (h : floatToIntVal .f64 x .i64 = some n) : ∀ W, (convert 29 2 (.float .f64 x)).run Try.prog W = .ok (.int .i64 n) W :=
  fun W => run_convert_float_int W 29 2 .f64 .i64 x n (by kernel_rfl) (by kernel_rfl) h
theorem run_f64 {op : BinOp} {x y r : Nat} (h : floatBits op .f64 x y = some r) : ∀ W, (binOp op 29 (.float .f64 x) (.float .f64 y)).run Try.prog W = .ok (.float .f64 r) W :=
  fun W => run_float_arith W op 29 .f64 _ _ _ h
theorem run_f32 {op : BinOp} {x y r : Nat} (h : floatBits op .f32 x y = some r) : ∀ W, (binOp op 38 (.float .f32 x) (.float .f32 y)).run Try.prog W = .ok (.float .f32 r) W :=
  fun W => run_float_arith W op 38 .f32 _ _ _ h

theorem pha_at (k : Nat) (hk : k < 512) (w : World) :
    Calls Try.prog 13 #[.float .f64 (awI (kI k))] w fun e w' => e = .returned (.complex .f32 (PR (k % 64)) (PI (k % 64))) ∧ ∃ n, w' = w.drewN n := by
  obtain ⟨_, h2, h3⟩ := kn_of k hk
  have h := implPha _ _ _ _ _ _ _ h3 (awI_lt _) h2 w
  rw [sine_at (k % 16) (by omega), sine_at (16 - k % 16) (by omega)] at h
  obtain ⟨p1, p2⟩ := ph_of (k % 64) (by omega)
  rw [show k % 64 % 16 = k % 16 by omega] at p1 p2
  rw [p1, p2] at h
  refine h.mono ?_
  rintro e w' ⟨g, q, n, rfl, rfl, hg, hq⟩
  obtain ⟨_, rfl⟩ := can_eq_some hg.out
  obtain ⟨_, rfl⟩ := can_eq_some hq.out
  exact ⟨rfl, n, rfl⟩

theorem ang_any {y x Y X A : Nat} (h : Ang y x Y X A) (w : World) :
    Calls Try.prog 35 #[.float .f32 y, .float .f32 x] w fun e w' => e = .returned (.float .f32 A) ∧ ∃ n, w' = w.drewN n := by
  have hok : okNar (angC (tanF Y X (FloatKind.f64.format.order (absW Y) (absW X) == some .gt)) (FloatKind.f64.format.order (absW Y) (absW X) == some .gt) (FloatKind.f32.format.order x 0 == some .lt) (FloatKind.f32.format.order y 0 == some .lt)) := by
    intro v hv
    have := h.ang
    rw [hv] at this
    exact ⟨A, this⟩
  have hc := implAngle y x Y X _ _ _ h.py.fin h.px.fin h.py.wid h.px.wid h.py.wfX h.px.wfX rfl rfl rfl h.nz hok w
  rw [h.ang] at hc
  refine hc.mono ?_
  rintro e w' ⟨g, n, rfl, rfl, hg, _⟩
  obtain ⟨_, rfl⟩ := can_eq_some hg.out
  exact ⟨rfl, n, rfl⟩
theorem angOf_any {y x Y X A : Nat} (h : Ang y x Y X A) (w : World) :
    Calls Try.prog 17 #[.complex .f32 x y] w fun e w' => e = .returned (.float .f32 A) ∧ ∃ n, w' = w.drewN n := by
  have H := Lib.hid (ang_any h)
  clear h
  go_enter Try.func17, Try.ntmps17
  go_wp2_with (go_at_call 35; refine (H.out _).mono ?_; rintro e w' ⟨rfl, n, rfl⟩)
  go_ret
  exact ⟨rfl, _, rfl⟩

theorem wideParts_W {x y X Y : Nat} (hx : floatToFloatBits .f32 x .f64 = some X) (hy : floatToFloatBits .f32 y .f64 = some Y) (w : World) :
    Calls Try.prog 50 #[.complex .f32 x y] w fun e w' => e = .returned (.tuple #[.float .f64 X, .float .f64 Y]) ∧ w = w' := by
  have q1 := run_w32 hx
  have q2 := run_w32 hy
  clear hx hy
  go_enter Try.func50, Try.ntmps50
  go_wp2_with fail
  go_ret2
  exact ⟨rfl, rfl⟩
theorem narrow_W {x y : Nat} (hx : floatToFloatBits .f64 x .f32 = some y) (w : World) :
    Calls Try.prog 36 #[.float .f64 x] w fun e w' => e = .returned (.float .f32 y) ∧ w = w' := by
  have q1 := run_n64 hx
  clear hx
  go_enter Try.func36, Try.ntmps36
  go_wp2_with fail
  go_ret
  exact ⟨rfl, rfl⟩
theorem powerOf_W {x y X Y r q : Nat} (hx : floatToFloatBits .f32 x .f64 = some X) (hy : floatToFloatBits .f32 y .f64 = some Y) (h : powO X Y = some r) (hn : floatToFloatBits .f64 r .f32 = some q) (w : World) :
    Calls Try.prog 19 #[.complex .f32 x y] w fun e w' => e = .returned (.float .f32 q) ∧ w = w' := by
  obtain ⟨s, hs, h⟩ := bindO_some h
  obtain ⟨t, ht, h⟩ := bindO_some h
  have c0 := Lib.hid (wideParts_W hx hy)
  have c2 := Lib.hid (narrow_W hn)
  have c1 : Hid (∀ W, Calls Try.prog 37 #[.complex .f32 x y] W fun e w' => e = .returned (.float .f64 r) ∧ W = w') := fun W => by
    have q1 := run_f64 (show floatBits .mul .f64 X X = some s from mulF_ok hs)
    have q2 := run_f64 (show floatBits .mul .f64 Y Y = some t from mulF_ok ht)
    have q3 := run_f64 (show floatBits .add .f64 s t = some r from addF_ok h)
    clear hx hy hs ht h hn c2
    go_enter Try.func37, Try.ntmps37
    go_wp2_with (go_at_call 50; refine (c0.out _).mono ?_; rintro e w' ⟨rfl, rfl⟩)
    go_ret
    exact ⟨rfl, rfl⟩
  clear hx hy hs ht h hn c0
  go_enter Try.func19, Try.ntmps19
  go_wp2_with (first | (go_at_call 37; refine (c1.out _).mono ?_; rintro e w' ⟨rfl, rfl⟩) | (go_at_call 36; refine (c2.out _).mono ?_; rintro e w' ⟨rfl, rfl⟩))
  go_ret
  exact ⟨rfl, rfl⟩
theorem mulC_W {x y u v X Y U V f g p q : Nat} (hx : floatToFloatBits .f32 x .f64 = some X) (hy : floatToFloatBits .f32 y .f64 = some Y) (hu : floatToFloatBits .f32 u .f64 = some U) (hv : floatToFloatBits .f32 v .f64 = some V)
    (h1 : (bindO (mulF .f64 X U) fun a => bindO (mulF .f64 Y V) fun b => addF .f64 true a b) = some f) (h2 : (bindO (mulF .f64 X V) fun a => bindO (mulF .f64 Y U) fun b => addF .f64 false a b) = some g)
    (hp : floatToFloatBits .f64 f .f32 = some p) (hq : floatToFloatBits .f64 g .f32 = some q) (w : World) :
    Calls Try.prog 21 #[.complex .f32 x y, .complex .f32 u v] w fun e w' => e = .returned (.complex .f32 p q) ∧ w = w' := by
  obtain ⟨a, ha, h1⟩ := bindO_some h1
  obtain ⟨b, hb, h1⟩ := bindO_some h1
  obtain ⟨c, hc, h2⟩ := bindO_some h2
  obtain ⟨d, hd, h2⟩ := bindO_some h2
  have c1 := Lib.hid (wideParts_W hx hy)
  have c2 := Lib.hid (wideParts_W hu hv)
  have n1 := Lib.hid (narrow_W hp)
  have n2 := Lib.hid (narrow_W hq)
  have W1 : Hid (∀ W, Calls Try.prog 38 #[.complex .f32 x y, .complex .f32 u v] W fun e w' => e = .returned (.complex .f64 f g) ∧ W = w') := fun W => by
    have q1 := run_f64 (show floatBits .mul .f64 X U = some a from mulF_ok ha)
    have q2 := run_f64 (show floatBits .mul .f64 Y V = some b from mulF_ok hb)
    have q3 := run_f64 (show floatBits .mul .f64 X V = some c from mulF_ok hc)
    have q4 := run_f64 (show floatBits .mul .f64 Y U = some d from mulF_ok hd)
    have q5 := run_f64 (show floatBits .sub .f64 a b = some f from subF_ok h1)
    have q6 := run_f64 (show floatBits .add .f64 c d = some g from addF_ok h2)
    clear hx hy hu hv ha hb hc hd h1 h2 hp hq n1 n2
    go_enter Try.func38, Try.ntmps38
    go_wp2_with fail
    refine (c1.out _).mono ?_
    rintro e w' ⟨rfl, rfl⟩
    go_wp2_with fail
    refine (c2.out _).mono ?_
    rintro e w' ⟨rfl, rfl⟩
    go_wp2_with fail
    go_ret
    exact ⟨rfl, rfl⟩
  have W2 : Hid (∀ W, Calls Try.prog 33 #[.complex .f64 f g] W fun e w' => e = .returned (.complex .f32 p q) ∧ W = w') := fun W => by
    clear hx hy hu hv ha hb hc hd h1 h2 hp hq c1 c2 W1
    go_enter Try.func33, Try.ntmps33
    go_wp2_with fail
    refine (n1.out _).mono ?_
    rintro e w' ⟨rfl, rfl⟩
    go_wp2_with fail
    refine (n2.out _).mono ?_
    rintro e w' ⟨rfl, rfl⟩
    go_wp2_with fail
    go_ret
    exact ⟨rfl, rfl⟩
  clear hx hy hu hv ha hb hc hd h1 h2 hp hq c1 c2 n1 n2
  go_enter Try.func21, Try.ntmps21
  go_wp2_with fail
  refine (W1.out _).mono ?_
  rintro e w' ⟨rfl, rfl⟩
  go_wp2_with fail
  refine (W2.out _).mono ?_
  rintro e w' ⟨rfl, rfl⟩
  go_wp2_with fail
  go_ret
  exact ⟨rfl, rfl⟩

theorem gap_W {x y g : Nat} (h : GapIs x y g) (w : World) :
    Calls Try.prog 18 #[.float .f64 x, .float .f64 y] w fun e w' => e = .returned (.float .f64 g) ∧ w = w' := by
  rcases h with ⟨h1, h2⟩ | ⟨h1, h2⟩
  · have q1 := run_f64 h2
    clear h2
    go_enter Try.func18, Try.ntmps18
    go_wp2_with fail
    go_ret
    exact ⟨rfl, rfl⟩
  · have q1 := run_f64 h2
    clear h2
    go_enter Try.func18, Try.ntmps18
    go_wp2_with fail
    go_ret
    exact ⟨rfl, rfl⟩

/-- a part that is near -/
structure NearIs (p x X : Nat) (m : Nat) : Prop where
  ex : ∃ P g, floatToFloatBits .f32 p .f64 = some P ∧ floatToFloatBits .f32 x .f64 = some X ∧ GapIs P X g ∧ (FloatKind.f64.format.order g m = some .lt ∨ FloatKind.f64.format.order g m = some .eq)
theorem near_W {p q x y X Y m : Nat} (h1 : NearIs p x X m) (h2 : NearIs q y Y m) (w : World) :
    Calls Try.prog 20 #[.complex .f32 p q, .complex .f32 x y, .float .f64 m] w fun e w' => e = .returned (.bool true) ∧ w = w' := by
  obtain ⟨P, g, a1, a2, a3, a4⟩ := h1
  obtain ⟨Q, f, b1, b2, b3, b4⟩ := h2
  have c1 := Lib.hid (gap_W a3)
  have c2 := Lib.hid (gap_W b3)
  have q1 := run_w32 a1
  have q2 := run_w32 a2
  have q3 := run_w32 b1
  have q4 := run_w32 b2
  clear a1 a2 a3 b1 b2 b3
  rcases a4 with a4 | a4 <;> rcases b4 with b4 | b4
  all_goals
    go_enter Try.func20, Try.ntmps20
    go_wp2_with fail
    refine (c1.out _).mono ?_
    rintro e w' ⟨rfl, rfl⟩
    go_wp2_with fail
    refine (c2.out _).mono ?_
    rintro e w' ⟨rfl, rfl⟩
    go_wp2_with fail
    go_ret
    exact ⟨rfl, rfl⟩

theorem ten_at {x : Nat} {n : Int} (h : TenOf x n) (w : World) :
    Calls Try.prog 22 #[.float .f32 x] w fun e w' => e = .returned (.tuple #[.int .i64 n, .bool true]) ∧ ∃ k, w' = w.drewN k := by
  obtain ⟨h1, h2, y, v, h3, h4, h5, h6, h7⟩ := h
  exact implTenths x y v n h1 h2 h3 h4 h5 h6 h7 w

theorem below_drew {B n : Nat} {w w' : World} (h : Below B w w') : Below B w (w'.drewN n) := ⟨h.os, h.tape, h.output, h.size, h.block⟩
theorem specSame1 (a b : Nat) (ha : WF .f32 a) (hb : WF .f32 b) (w : World) :
    Calls Try.prog 42 #[.float .f32 a, .float .f32 b] w fun e w' => e = .returned (.bool (bitsV a == bitsV b)) ∧ ∃ n, w' = w.drewN n := by
  go_enter Try.func42, Try.ntmps42
  go_wp2_with (go_at_call 54; refine (specBits _ (by assumption) _).mono ?_; rintro e w' ⟨rfl, rfl⟩)
  go_ret
  exact ⟨rfl, 0, rfl⟩

end Go.Proofs.Ytebijgjdeofalaa
