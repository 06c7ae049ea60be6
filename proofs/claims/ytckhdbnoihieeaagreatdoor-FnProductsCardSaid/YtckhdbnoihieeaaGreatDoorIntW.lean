/-
  What is proved here: the program's products, powers, quotients and roots of complex numbers whose parts are small integers, as walks. Conditions: the parts' bounds, as each theorem names.
-/
import Derived.Test.YtckhdbnoihieeaaGreatDoorInt
import Derived.Test.YtckhdbnoihieeaaGreatDoorRoot
import Derived.Test.YtckhdbnoihieeaaGreatDoorSimA
namespace Go.Proofs.YtckhdbnoihieeaaGreatDoor
open Flt Go.RowKit

/-- the word of an integer, but for a zero's sign -/
def IsI (k : FloatKind) (n : Int) (x : Nat) : Prop := ∃ s, x = N k s n.natAbs ∧ sg s n.natAbs = n

theorem lg {k : FloatKind} {m : Nat} (h : m < 16777216) : m.log2 ≤ k.format.fractionBits := by
  by_cases h0 : m = 0
  · subst h0
    have : Nat.log2 0 = 0 := by decide
    omega
  · have h1 : m.log2 < 24 := (Nat.log2_lt h0).2 (by show m < 2 ^ 24; omega)
    have h2 : 23 ≤ k.format.fractionBits := by cases k <;> decide
    omega
theorem lg64 {m : Nat} (h : m < 9007199254740992) : m.log2 ≤ FloatKind.f64.format.fractionBits := by
  by_cases h0 : m = 0
  · subst h0
    have : Nat.log2 0 = 0 := by decide
    omega
  · have h1 : m.log2 < 53 := (Nat.log2_lt h0).2 (by show m < 2 ^ 53; omega)
    have h2 : FloatKind.f64.format.fractionBits = 52 := by decide
    omega

theorem sg_abs (n : Int) : sg (decide (n < 0)) n.natAbs = n := by
  unfold sg
  by_cases h : n < 0
  · rw [decide_eq_true h, if_pos rfl]; omega
  · rw [decide_eq_false h, if_neg (by simp)]; omega
theorem sg_natAbs (s : Bool) (m : Nat) : (sg s m).natAbs = m := by
  unfold sg
  cases s <;> simp
theorem sg_mul (s t : Bool) (m n : Nat) : sg (s ^^ t) (m * n) = sg s m * sg t n := by
  unfold sg
  cases s <;> cases t <;> simp [Int.neg_mul, Int.mul_neg]
theorem sg_sgn (s t : Bool) (z : Int) : sg (sgn s t z) z.natAbs = z := by
  unfold sgn
  by_cases h : z = 0
  · subst h; unfold sg; simp
  · rw [if_neg h]; exact sg_abs z

theorem I_of (k : FloatKind) (n : Int) : IsI k n (floatOfInt k n) := ⟨decide (n < 0), rfl, sg_abs n⟩
theorem I_zero : IsI .f32 0 0 := ⟨false, by decide, rfl⟩
theorem I_two : IsI .f32 2 1073741824 := ⟨false, by decide +kernel, rfl⟩
theorem I_wf {k : FloatKind} {n : Int} {x : Nat} (h : IsI k n x) : WF k x := by
  obtain ⟨s, rfl, _⟩ := h
  exact wf_N k s _

theorem I_mul {k : FloatKind} {a b : Int} {x y : Nat} (hx : IsI k a x) (hy : IsI k b y) (ha : a.natAbs.log2 ≤ k.format.fractionBits) (hb : b.natAbs.log2 ≤ k.format.fractionBits) (hab : (a * b).natAbs.log2 ≤ k.format.fractionBits) :
    ∃ r, floatBits .mul k x y = some r ∧ IsI k (a * b) r := by
  obtain ⟨s, rfl, h1⟩ := hx
  obtain ⟨t, rfl, h2⟩ := hy
  rw [Int.natAbs_mul] at hab
  refine ⟨_, mul_N k ha hb hab, s ^^ t, by rw [Int.natAbs_mul], ?_⟩
  rw [Int.natAbs_mul, sg_mul, h1, h2]
theorem I_add {k : FloatKind} {a b : Int} {x y : Nat} (hx : IsI k a x) (hy : IsI k b y) (ha : a.natAbs.log2 ≤ k.format.fractionBits) (hb : b.natAbs.log2 ≤ k.format.fractionBits) (hab : (a + b).natAbs.log2 ≤ k.format.fractionBits) :
    ∃ r, floatBits .add k x y = some r ∧ IsI k (a + b) r := by
  obtain ⟨s, rfl, h1⟩ := hx
  obtain ⟨t, rfl, h2⟩ := hy
  have e : sg s a.natAbs + sg t b.natAbs = a + b := by rw [h1, h2]
  have := add_N k ha hb (s := s) (t := t) (by rw [e]; exact hab)
  rw [e] at this
  exact ⟨_, this, _, rfl, sg_sgn s t _⟩
theorem sg_not (t : Bool) (m : Nat) : sg (!t) m = - sg t m := by unfold sg; cases t <;> simp
theorem I_sub {k : FloatKind} {a b : Int} {x y : Nat} (hx : IsI k a x) (hy : IsI k b y) (ha : a.natAbs.log2 ≤ k.format.fractionBits) (hb : b.natAbs.log2 ≤ k.format.fractionBits) (hab : (a - b).natAbs.log2 ≤ k.format.fractionBits) :
    ∃ r, floatBits .sub k x y = some r ∧ IsI k (a - b) r := by
  obtain ⟨s, rfl, h1⟩ := hx
  obtain ⟨t, rfl, h2⟩ := hy
  have e : sg s a.natAbs + sg (!t) b.natAbs = a - b := by rw [sg_not, h1, h2]; omega
  have := sub_N k ha hb (s := s) (t := t) (by rw [e]; exact hab)
  rw [e] at this
  exact ⟨_, this, _, rfl, sg_sgn s (!t) _⟩
theorem I_quo {k : FloatKind} {a b : Int} {x y : Nat} (hx : IsI k (a * b) x) (hy : IsI k b y) (ha : a.natAbs.log2 ≤ k.format.fractionBits) (hb : b.natAbs.log2 ≤ k.format.fractionBits) (hab : (a * b).natAbs.log2 ≤ k.format.fractionBits) (h0 : b ≠ 0) :
    ∃ r, floatBits .quo k x y = some r ∧ IsI k a r := by
  obtain ⟨s, rfl, h1⟩ := hx
  obtain ⟨t, rfl, h2⟩ := hy
  rw [Int.natAbs_mul] at hab h1 ⊢
  refine ⟨_, quo_N k hab hb ha (by omega), s ^^ t, rfl, ?_⟩
  have h3 : sg (s ^^ t) a.natAbs * sg t b.natAbs = sg s (a.natAbs * b.natAbs) := by
    rw [← sg_mul]
    congr 1
    cases s <;> cases t <;> rfl
  rw [h1, h2] at h3
  exact Int.eq_of_mul_eq_mul_right h0 h3
theorem I_conv {k j : FloatKind} (hkj : k ≠ j) {a : Int} {x : Nat} (hx : IsI k a x) (ha : a.natAbs.log2 ≤ k.format.fractionBits) (hb : a.natAbs.log2 ≤ j.format.fractionBits) :
    ∃ r, floatToFloatBits k x j = some r ∧ IsI j a r := by
  obtain ⟨s, rfl, h1⟩ := hx
  exact ⟨_, conv_N hkj ha hb, s, rfl, h1⟩
theorem I_neg {k : FloatKind} {a : Int} {x : Nat} (hx : IsI k a x) (ha : a.natAbs.log2 ≤ k.format.fractionBits) : IsI k (-a) (Op.negFloat k x) := by
  obtain ⟨s, rfl, h1⟩ := hx
  exact ⟨!s, by rw [neg_N k s _ ha, Int.natAbs_neg], by rw [Int.natAbs_neg, sg_not, h1]⟩
theorem I_order {k : FloatKind} {a b : Int} {x y : Nat} (hx : IsI k a x) (hy : IsI k b y) (ha : a.natAbs.log2 ≤ k.format.fractionBits) (hb : b.natAbs.log2 ≤ k.format.fractionBits) : k.format.order x y = some (compare a b) := by
  obtain ⟨s, rfl, h1⟩ := hx
  obtain ⟨t, rfl, h2⟩ := hy
  rw [order_N k ha hb, h1, h2]
theorem I_eq {k : FloatKind} {a b : Int} {x y : Nat} (hx : IsI k a x) (hy : IsI k b y) (h : a = b) (ha : a.natAbs < 16777216) : k.format.order x y = some .eq := by
  subst h
  rw [I_order hx hy (lg ha) (lg ha)]
  simp [compare, compareOfLessAndEq]
theorem I_ne {k : FloatKind} {a b : Int} {x y : Nat} (hx : IsI k a x) (hy : IsI k b y) (h : a ≠ b) (ha : a.natAbs < 16777216) (hb : b.natAbs < 16777216) : (k.format.order x y == some .eq) = false := by
  rw [I_order hx hy (lg ha) (lg hb)]
  simp only [compare, compareOfLessAndEq]
  by_cases h1 : a < b
  · rw [if_pos h1]; rfl
  · rw [if_neg h1, if_neg h]; rfl
theorem I_int {k : FloatKind} {a : Int} {x : Nat} (hx : IsI k a x) (ha : a.natAbs < 16777216) : floatToIntVal k x .i64 = some a := by
  obtain ⟨s, rfl, h1⟩ := hx
  rw [int_N k s _ (lg ha) (by omega), h1]

/-- a power, as it is reckoned -/
def pw (k : FloatKind) (a b : Int) : Nat := N k false (a * a + b * b).natAbs
theorem I_pw (k : FloatKind) (a b : Int) : IsI k (a * a + b * b) (pw k a b) := by
  refine ⟨false, rfl, ?_⟩
  have h1 : 0 ≤ a * a := by rcases Int.le_total 0 a with h | h; exact Int.mul_nonneg h h; exact Int.mul_nonneg_of_nonpos_of_nonpos h h
  have h2 : 0 ≤ b * b := by rcases Int.le_total 0 b with h | h; exact Int.mul_nonneg h h; exact Int.mul_nonneg_of_nonpos_of_nonpos h h
  unfold sg
  simp
  omega
theorem sq_nat (a : Int) : ((a.natAbs * a.natAbs : Nat) : Int) = a * a := by
  rw [Int.natCast_mul]; exact Int.natAbs_mul_self
theorem I_sq {k : FloatKind} {a : Int} {x : Nat} (hx : IsI k a x) (ha : a.natAbs.log2 ≤ k.format.fractionBits) (hab : (a * a).natAbs.log2 ≤ k.format.fractionBits) : floatBits .mul k x x = some (N k false (a.natAbs * a.natAbs)) := by
  obtain ⟨s, rfl, h1⟩ := hx
  rw [Int.natAbs_mul] at hab
  have := mul_N k (s := s) (t := s) ha ha hab
  rwa [show (s ^^ s) = false by cases s <;> rfl] at this
theorem pw_add {k : FloatKind} {a b : Int} (h1 : (a * a).natAbs.log2 ≤ k.format.fractionBits) (h2 : (b * b).natAbs.log2 ≤ k.format.fractionBits) (h3 : (a * a + b * b).natAbs.log2 ≤ k.format.fractionBits) :
    floatBits .add k (N k false (a.natAbs * a.natAbs)) (N k false (b.natAbs * b.natAbs)) = some (pw k a b) := by
  rw [Int.natAbs_mul] at h1 h2
  have e : sg false (a.natAbs * a.natAbs) + sg false (b.natAbs * b.natAbs) = a * a + b * b := by
    unfold sg
    rw [if_neg (by simp), if_neg (by simp), sq_nat, sq_nat]
  have := add_N k (s := false) (t := false) h1 h2 (by rw [e]; exact h3)
  rw [e] at this
  rw [this]
  have h0 : sgn false false (a * a + b * b) = false := by
    unfold sgn
    split
    · rfl
    · rw [← sq_nat, ← sq_nat]; exact decide_eq_false (by omega)
  rw [h0]; rfl

theorem mul_bd {a b : Int} {A B : Nat} (ha : a.natAbs ≤ A) (hb : b.natAbs ≤ B) : (a * b).natAbs ≤ A * B := by rw [Int.natAbs_mul]; exact Nat.mul_le_mul ha hb
theorem run_w32 {x y : Nat} (h : floatToFloatBits .f32 x .f64 = some y) : ∀ W, (convert 28 46 (.float .f32 x)).run Tryz.prog W = .ok (.float .f64 y) W :=
  fun W => run_convert_float_float W 28 46 .f32 .f64 x y (by kernel_rfl) (by kernel_rfl) h
theorem run_n64 {x y : Nat} (h : floatToFloatBits .f64 x .f32 = some y) : ∀ W, (convert 46 28 (.float .f64 x)).run Tryz.prog W = .ok (.float .f32 y) W :=
  fun W => run_convert_float_float W 46 28 .f64 .f32 x y (by kernel_rfl) (by kernel_rfl) h
theorem run_i32 {x : Nat} {n : Int} (h : floatToIntVal .f32 x .i64 = some n) : ∀ W, (convert 28 2 (.float .f32 x)).run Tryz.prog W = .ok (.int .i64 n) W :=
  fun W => run_convert_float_int W 28 2 .f32 .i64 x n (by kernel_rfl) (by kernel_rfl) h
theorem run_f64 {op : BinOp} {x y r : Nat} (h : floatBits op .f64 x y = some r) : ∀ W, (binOp op 46 (.float .f64 x) (.float .f64 y)).run Tryz.prog W = .ok (.float .f64 r) W :=
  fun W => run_float_arith W op 46 .f64 _ _ _ h
theorem run_f32 {op : BinOp} {x y r : Nat} (h : floatBits op .f32 x y = some r) : ∀ W, (binOp op 28 (.float .f32 x) (.float .f32 y)).run Tryz.prog W = .ok (.float .f32 r) W :=
  fun W => run_float_arith W op 28 .f32 _ _ _ h

theorem wideParts_I {x y X Y : Nat} (hx : floatToFloatBits .f32 x .f64 = some X) (hy : floatToFloatBits .f32 y .f64 = some Y) (w : World) :
    Calls Tryz.prog 53 #[.complex .f32 x y] w fun e w' => e = .returned (.tuple #[.float .f64 X, .float .f64 Y]) ∧ w = w' := by
  have q1 := run_w32 hx
  have q2 := run_w32 hy
  clear hx hy
  go_enter Tryz.func53, Tryz.ntmps53
  go_wp2_with fail
  go_ret2
  exact ⟨rfl, rfl⟩

theorem widePower_I {a b : Int} {x y : Nat} (hx : IsI .f32 a x) (hy : IsI .f32 b y) (ha : a.natAbs ≤ 200) (hb : b.natAbs ≤ 200) (w : World) :
    Calls Tryz.prog 31 #[.complex .f32 x y] w fun e w' => e = .returned (.float .f64 (pw .f64 a b)) ∧ w = w' := by
  obtain ⟨X, hX, iX⟩ := I_conv (j := .f64) (by decide) hx (lg (by omega)) (lg (by omega))
  obtain ⟨Y, hY, iY⟩ := I_conv (j := .f64) (by decide) hy (lg (by omega)) (lg (by omega))
  have e1 := mul_bd ha ha
  have e2 := mul_bd hb hb
  have hc := Lib.hid (wideParts_I hX hY)
  have q1 := run_f64 (I_sq iX (lg (by omega)) (lg (by omega)))
  have q2 := run_f64 (I_sq iY (lg (by omega)) (lg (by omega)))
  have q3 := run_f64 (pw_add (k := .f64) (a := a) (b := b) (lg (by omega)) (lg (by omega)) (lg (by omega)))
  generalize pw .f64 a b = R at *
  generalize N .f64 false (a.natAbs * a.natAbs) = S at *
  generalize N .f64 false (b.natAbs * b.natAbs) = T at *
  clear hX hY hx hy iX iY e1 e2 ha hb
  go_enter Tryz.func31, Tryz.ntmps31
  go_wp2_with (go_at_call 53; refine (hc.out _).mono ?_; rintro e w' ⟨rfl, rfl⟩)
  go_ret
  exact ⟨rfl, rfl⟩

/-- what a product gives -/
def PostC (k : FloatKind) (a b : Int) (w : World) (e : Ending) (w' : World) : Prop := ∃ r s, e = .returned (.complex k r s) ∧ w = w' ∧ Hid (IsI k a r ∧ IsI k b s)

theorem wideProduct_I {a b c d : Int} {x y u v : Nat} (hx : IsI .f32 a x) (hy : IsI .f32 b y) (hu : IsI .f32 c u) (hv : IsI .f32 d v) (ha : a.natAbs ≤ 80000) (hb : b.natAbs ≤ 80000) (hc : c.natAbs ≤ 200) (hd : d.natAbs ≤ 200) (w : World) :
    Calls Tryz.prog 29 #[.complex .f32 x y, .complex .f32 u v] w (PostC .f64 (a * c - b * d) (a * d + b * c) w) := by
  obtain ⟨X, hX, iX⟩ := I_conv (j := .f64) (by decide) hx (lg (by omega)) (lg (by omega))
  obtain ⟨Y, hY, iY⟩ := I_conv (j := .f64) (by decide) hy (lg (by omega)) (lg (by omega))
  obtain ⟨U, hU, iU⟩ := I_conv (j := .f64) (by decide) hu (lg (by omega)) (lg (by omega))
  obtain ⟨V, hV, iV⟩ := I_conv (j := .f64) (by decide) hv (lg (by omega)) (lg (by omega))
  have e1 := mul_bd ha hc
  have e2 := mul_bd hb hd
  have e3 := mul_bd ha hd
  have e4 := mul_bd hb hc
  obtain ⟨p, hp, ip⟩ := I_mul iX iU (lg (by omega)) (lg (by omega)) (lg64 (by omega))
  obtain ⟨q, hq, iq⟩ := I_mul iY iV (lg (by omega)) (lg (by omega)) (lg64 (by omega))
  obtain ⟨r, hr, ir⟩ := I_mul iX iV (lg (by omega)) (lg (by omega)) (lg64 (by omega))
  obtain ⟨s, hs, is⟩ := I_mul iY iU (lg (by omega)) (lg (by omega)) (lg64 (by omega))
  obtain ⟨f, hf, if_⟩ := I_sub ip iq (lg64 (by omega)) (lg64 (by omega)) (lg64 (by omega))
  obtain ⟨g, hg, ig⟩ := I_add ir is (lg64 (by omega)) (lg64 (by omega)) (lg64 (by omega))
  have c1 := Lib.hid (wideParts_I hX hY)
  have c2 := Lib.hid (wideParts_I hU hV)
  have q1 := run_f64 hp
  have q2 := run_f64 hq
  have q3 := run_f64 hr
  have q4 := run_f64 hs
  have q5 := run_f64 hf
  have q6 := run_f64 hg
  have HI := Lib.hid (And.intro if_ ig)
  clear hX hY hU hV hx hy hu hv iX iY iU iV e1 e2 e3 e4 ha hb hc hd hp hq hr hs hf hg ip iq ir is if_ ig
  go_enter Tryz.func29, Tryz.ntmps29
  go_wp2_with (first | (go_at_call 53; ((with_reducible refine (c1.out _).mono ?_); rintro e w' ⟨rfl, rfl⟩)) | (go_at_call 53; ((with_reducible refine (c2.out _).mono ?_); rintro e w' ⟨rfl, rfl⟩)))
  go_ret
  exact ⟨f, g, rfl, rfl, HI⟩

theorem narrow_I {x y : Nat} (hx : floatToFloatBits .f64 x .f32 = some y) (w : World) :
    Calls Tryz.prog 30 #[.float .f64 x] w fun e w' => e = .returned (.float .f32 y) ∧ w = w' := by
  have q1 := run_n64 hx
  clear hx
  go_enter Tryz.func30, Tryz.ntmps30
  go_wp2_with fail
  go_ret
  exact ⟨rfl, rfl⟩
theorem narrowC_I {a b : Int} {x y : Nat} (hx : IsI .f64 a x) (hy : IsI .f64 b y) (ha : a.natAbs < 16777216) (hb : b.natAbs < 16777216) (w : World) :
    Calls Tryz.prog 24 #[.complex .f64 x y] w (PostC .f32 a b w) := by
  obtain ⟨X, hX, iX⟩ := I_conv (j := .f32) (by decide) hx (lg ha) (lg ha)
  obtain ⟨Y, hY, iY⟩ := I_conv (j := .f32) (by decide) hy (lg hb) (lg hb)
  have c1 := Lib.hid (narrow_I hX)
  have c2 := Lib.hid (narrow_I hY)
  have HI := Lib.hid (And.intro iX iY)
  clear hX hY hx hy iX iY ha hb
  go_enter Tryz.func24, Tryz.ntmps24
  go_wp2_with (first | (go_at_call 30; ((with_reducible refine (c1.out _).mono ?_); rintro e w' ⟨rfl, rfl⟩)) | (go_at_call 30; ((with_reducible refine (c2.out _).mono ?_); rintro e w' ⟨rfl, rfl⟩)))
  go_ret
  exact ⟨X, Y, rfl, rfl, HI⟩

theorem mulC_I {a b c d : Int} {x y u v : Nat} (hx : IsI .f32 a x) (hy : IsI .f32 b y) (hu : IsI .f32 c u) (hv : IsI .f32 d v) (ha : a.natAbs ≤ 200) (hb : b.natAbs ≤ 200) (hc : c.natAbs ≤ 200) (hd : d.natAbs ≤ 200) (w : World) :
    Calls Tryz.prog 6 #[.complex .f32 x y, .complex .f32 u v] w (PostC .f32 (a * c - b * d) (a * d + b * c) w) := by
  have e1 := mul_bd ha hc
  have e2 := mul_bd hb hd
  have e3 := mul_bd ha hd
  have e4 := mul_bd hb hc
  have c1 := Lib.hid (wideProduct_I hx hy hu hv (by omega) (by omega) hc hd)
  have c2 : Hid (∀ r s w, IsI .f64 (a * c - b * d) r → IsI .f64 (a * d + b * c) s → Calls Tryz.prog 24 #[.complex .f64 r s] w (PostC .f32 (a * c - b * d) (a * d + b * c) w)) := fun r s w h1 h2 => narrowC_I h1 h2 (by omega) (by omega) w
  clear hx hy hu hv ha hb hc hd e1 e2 e3 e4
  go_enter Tryz.func6, Tryz.ntmps6
  go_wp2_with (first | (go_at_call 29; refine (c1.out _).mono ?_; rintro e w' ⟨r, s, rfl, rfl, HI⟩) | (go_at_call 24; refine (c2.out _ _ _ HI.out.1 HI.out.2).mono ?_; rintro e w' ⟨r2, s2, rfl, rfl, HJ⟩))
  go_ret
  exact ⟨r2, s2, rfl, rfl, HJ⟩

theorem powerOf_I {a b : Int} {x y : Nat} (hx : IsI .f32 a x) (hy : IsI .f32 b y) (ha : a.natAbs ≤ 200) (hb : b.natAbs ≤ 200) (w : World) :
    Calls Tryz.prog 7 #[.complex .f32 x y] w fun e w' => e = .returned (.float .f32 (pw .f32 a b)) ∧ w = w' := by
  have e1 := mul_bd ha ha
  have e2 := mul_bd hb hb
  have c1 := Lib.hid (widePower_I hx hy ha hb)
  have c2 := Lib.hid (narrow_I (conv_N (k := .f64) (j := .f32) (by decide) (s := false) (m := (a * a + b * b).natAbs) (lg (by omega)) (lg (by omega))))
  clear hx hy ha hb e1 e2
  go_enter Tryz.func7, Tryz.ntmps7
  go_wp2_with (first | (go_at_call 31; refine (c1.out _).mono ?_; rintro e w' ⟨rfl, rfl⟩) | (go_at_call 30; refine (c2.out _).mono ?_; rintro e w' ⟨rfl, rfl⟩))
  go_ret
  exact ⟨rfl, rfl⟩

theorem unary_negf (k : FloatKind) (b : Nat) : Op.unary .neg (.float k b) = pure (.float k (Op.negFloat k b)) := rfl
attribute [local go_sem] unary_negf

theorem conj_any (x y : Nat) (w : World) :
    Calls Tryz.prog 8 #[.complex .f32 x y] w fun e w' => e = .returned (.complex .f32 x (Op.negFloat .f32 y)) ∧ w = w' := by
  go_enter Tryz.func8, Tryz.ntmps8
  go_wp2_with fail
  go_ret
  exact ⟨rfl, rfl⟩

theorem longOf_I {a b : Int} {x y : Nat} (hx : IsI .f32 a x) (hy : IsI .f32 b y) (ha : a.natAbs ≤ 200) (hb : b.natAbs ≤ 200) (w : World) :
    Calls Tryz.prog 10 #[.complex .f32 x y] w (FPost .f32 (nar (fsqrt (wid (can .f32 (pw .f32 a b))))) w) := by
  have e1 := mul_bd ha ha
  have e2 := mul_bd hb hb
  have c1 := Lib.hid (widePower_I hx hy ha hb)
  have hw : Hid (can .f64 (pw .f64 a b) = wid (can .f32 (pw .f32 a b))) := by
    have l1 : (a * a + b * b).natAbs.log2 ≤ FloatKind.f32.format.fractionBits := lg (by omega)
    have l2 : (a * a + b * b).natAbs.log2 ≤ FloatKind.f64.format.fractionBits := lg (by omega)
    show can .f64 (pw .f64 a b) = wid (can .f32 (pw .f32 a b))
    have n1 : nanW .f32 (pw .f32 a b) = false := nanW_of_le (Nat.le_of_lt (fin_N .f32 false _ l1))
    have n2 : nanW .f64 (pw .f64 a b) = false := nanW_of_le (Nat.le_of_lt (fin_N .f64 false _ l2))
    rw [can_num n1, can_num n2]
    exact (conv_N (k := .f32) (j := .f64) (by decide) l1 l2).symm
  clear hx hy ha hb e1 e2
  go_enter Tryz.func10, Tryz.ntmps10
  go_wp2_with (first | (go_at_call 31; refine (c1.out _).mono ?_; rintro e w' ⟨rfl, rfl⟩) | ((with_reducible refine upon_sqrt ?_); intro _ _ _ _) | (go_at_call 30; go_in) | ((with_reducible refine upon_nar ?_ ?_ (ok_root (by assumption) hw) ?_); rotate_left 2; intro _ _ _ _; rotate_left 1; kernel_rfl; kernel_rfl) | go_in)
  rename_i s n2 ws es t n3 wt et
  go_ret
  exact fpost (by rw [et.out, es.out, hw.out]) wt

theorem quot_I {a b c d : Int} {x y u v : Nat} (hx : IsI .f32 (a * c - b * d) x) (hy : IsI .f32 (a * d + b * c) y) (hu : IsI .f32 c u) (hv : IsI .f32 d v) (ha : a.natAbs ≤ 200) (hb : b.natAbs ≤ 200) (hc : c.natAbs ≤ 200) (hd : d.natAbs ≤ 200) (h0 : c ≠ 0 ∨ d ≠ 0) (w : World) :
    Calls Tryz.prog 12 #[.complex .f32 x y, .complex .f32 u v] w (PostC .f32 a b w) := by
  have e1 := mul_bd ha hc
  have e2 := mul_bd hb hd
  have e3 := mul_bd ha hd
  have e4 := mul_bd hb hc
  have f1 := mul_bd hc hc
  have f2 := mul_bd hd hd
  have hp0 : c * c + d * d ≠ 0 := by
    rw [← sq_nat, ← sq_nat]
    intro h
    have h1 : c.natAbs * c.natAbs = 0 := by omega
    have h2 : d.natAbs * d.natAbs = 0 := by omega
    have h3 : c.natAbs = 0 := by rcases Nat.mul_eq_zero.1 h1 with h | h <;> exact h
    have h4 : d.natAbs = 0 := by rcases Nat.mul_eq_zero.1 h2 with h | h <;> exact h
    omega
  have nv := I_neg hv (lg (by omega))
  have c1 := Lib.hid (wideProduct_I hx hy hu nv (by omega) (by omega) hc (by rw [Int.natAbs_neg]; exact hd))
  have r1 : (a * c - b * d) * c - (a * d + b * c) * -d = a * (c * c + d * d) := by
    rw [Int.sub_mul, Int.mul_neg, Int.add_mul, Int.mul_add]
    have g1 : b * d * c = b * c * d := by rw [Int.mul_assoc, Int.mul_assoc, Int.mul_comm d c]
    have g2 : a * c * c = a * (c * c) := Int.mul_assoc ..
    have g3 : a * d * d = a * (d * d) := Int.mul_assoc ..
    omega
  have r2 : (a * c - b * d) * -d + (a * d + b * c) * c = b * (c * c + d * d) := by
    rw [Int.sub_mul, Int.mul_neg, Int.mul_neg, Int.add_mul, Int.mul_add]
    have g1 : a * c * d = a * d * c := by rw [Int.mul_assoc, Int.mul_assoc, Int.mul_comm d c]
    have g2 : b * c * c = b * (c * c) := Int.mul_assoc ..
    have g3 : b * d * d = b * (d * d) := Int.mul_assoc ..
    omega
  rw [r1, r2] at c1
  have s0 : (c * c + d * d).natAbs ≤ 80000 := by omega
  have s1 := mul_bd ha s0
  have s2 := mul_bd hb s0
  have c2 := Lib.hid (widePower_I hu hv hc hd)
  have cj := Lib.hid (fun W => conj_any u v W)
  have c3 : Hid (∀ r, IsI .f64 (a * (c * c + d * d)) r → ∃ q, (∀ W, (binOp .quo 46 (.float .f64 r) (.float .f64 (pw .f64 c d))).run Tryz.prog W = .ok (.float .f64 q) W) ∧ IsI .f64 a q) := fun r hr => by
    obtain ⟨q, h1, h2⟩ := I_quo hr (I_pw .f64 c d) (lg (by omega)) (lg (by omega)) (lg64 (by omega)) hp0
    exact ⟨q, run_f64 h1, h2⟩
  have c4 : Hid (∀ r, IsI .f64 (b * (c * c + d * d)) r → ∃ q, (∀ W, (binOp .quo 46 (.float .f64 r) (.float .f64 (pw .f64 c d))).run Tryz.prog W = .ok (.float .f64 q) W) ∧ IsI .f64 b q) := fun r hr => by
    obtain ⟨q, h1, h2⟩ := I_quo hr (I_pw .f64 c d) (lg (by omega)) (lg (by omega)) (lg64 (by omega)) hp0
    exact ⟨q, run_f64 h1, h2⟩
  have c5 : Hid (∀ r s w, IsI .f64 a r → IsI .f64 b s → Calls Tryz.prog 24 #[.complex .f64 r s] w (PostC .f32 a b w)) := fun r s w h1 h2 => narrowC_I h1 h2 (by omega) (by omega) w
  clear hx hy hu hv ha hb hc hd e1 e2 e3 e4 f1 f2 s0 s1 s2 r1 r2 nv hp0 h0
  go_enter Tryz.func12, Tryz.ntmps12
  go_wp2_with (first | (go_at_call 8; refine (cj.out _).mono ?_; rintro e w' ⟨rfl, rfl⟩) | (go_at_call 29; refine (c1.out _).mono ?_; rintro e w' ⟨r, s, rfl, rfl, HI⟩; obtain ⟨q1, k1, j1⟩ := c3.out _ HI.out.1; obtain ⟨q2, k2, j2⟩ := c4.out _ HI.out.2; have J := Lib.hid (And.intro j1 j2); clear j1 j2) | (go_at_call 31; refine (c2.out _).mono ?_; rintro e w' ⟨rfl, rfl⟩) | (go_at_call 24; refine (c5.out _ _ _ J.out.1 J.out.2).mono ?_; rintro e w' ⟨r2, s2, rfl, rfl, HJ⟩))
  go_ret
  exact ⟨r2, s2, rfl, rfl, HJ⟩

theorem scale_I {a b : Int} {x y : Nat} (hx : IsI .f32 a x) (hy : IsI .f32 b y) (ha : a.natAbs ≤ 200) (hb : b.natAbs ≤ 200) (w : World) :
    Calls Tryz.prog 13 #[.complex .f32 x y, .float .f32 1073741824] w (PostC .f32 (a * 2) (b * 2) w) := by
  obtain ⟨p, hp, ip⟩ := I_mul hx I_two (lg (by omega)) (lg (by decide)) (lg (by omega))
  obtain ⟨q, hq, iq⟩ := I_mul hy I_two (lg (by omega)) (lg (by decide)) (lg (by omega))
  have q1 := run_f32 hp
  have q2 := run_f32 hq
  have HI := Lib.hid (And.intro ip iq)
  clear hx hy ha hb hp hq ip iq
  go_enter Tryz.func13, Tryz.ntmps13
  go_wp2_with fail
  go_ret
  exact ⟨p, q, rfl, rfl, HI⟩

end Go.Proofs.YtckhdbnoihieeaaGreatDoor
