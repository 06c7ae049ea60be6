/-
  What is proved here: the law TenthsOf as a walk, whatever is drawn. Conditions: words fit their kinds.
-/
import Derived.Test.YtebijgjdeofalaaLogC
namespace Go.Proofs.Ytebijgjdeofalaa
namespace Flt
open Ieee

/-- a number of at most 2 ^ E: there is one -/
structure Bs (E : Int) (a : Option Nat) : Prop where
  ex : ∃ v, a = some v
  bd : Bd .f64 E a

theorem Bs.mono {E F : Int} {a : Option Nat} (h : Bs E a) (he : E ≤ F) : Bs F a := ⟨h.ex, h.bd.mono he⟩

theorem Bs_add {a b : Option Nat} {E : Int} (ha : Bs E a) (hb : Bs E b) (h1 : -1000 ≤ E) (h2 : E ≤ 999) : Bs (E + 1) (fop .add .f64 a b) := by
  refine ⟨?_, Bd_add ha.bd hb.bd h1 h2⟩
  obtain ⟨x, rfl⟩ := ha.ex
  obtain ⟨y, rfl⟩ := hb.ex
  obtain ⟨s, m, p, hr, _⟩ := ha.bd x rfl
  obtain ⟨t, n, q, hs, _⟩ := hb.bd y rfl
  show ∃ v, ((FloatKind.f64.format.read x).sum (FloatKind.f64.format.read y)).map FloatKind.f64.format.write = some v
  rw [hr, hs]; exact ⟨_, rfl⟩
theorem Bs_sub {a b : Option Nat} {E : Int} (ha : Bs E a) (hb : Bs E b) (h1 : -1000 ≤ E) (h2 : E ≤ 999) : Bs (E + 1) (fop .sub .f64 a b) := by
  refine ⟨?_, Bd_sub ha.bd hb.bd h1 h2⟩
  obtain ⟨x, rfl⟩ := ha.ex
  obtain ⟨y, rfl⟩ := hb.ex
  obtain ⟨s, m, p, hr, _⟩ := ha.bd x rfl
  obtain ⟨t, n, q, hs, _⟩ := hb.bd y rfl
  show ∃ v, ((FloatKind.f64.format.read x).sum (FloatKind.f64.format.read y).opposite).map FloatKind.f64.format.write = some v
  rw [hr, hs]; exact ⟨_, rfl⟩
theorem Bs_mul {a b : Option Nat} {E F : Int} (ha : Bs E a) (hb : Bs F b) (h1 : -1000 ≤ E + F) (h2 : E + F ≤ 1000) : Bs (E + F) (fop .mul .f64 a b) := by
  refine ⟨?_, Bd_mul ha.bd hb.bd h1 h2⟩
  obtain ⟨x, rfl⟩ := ha.ex
  obtain ⟨y, rfl⟩ := hb.ex
  obtain ⟨s, m, p, hr, _⟩ := ha.bd x rfl
  obtain ⟨t, n, q, hs, _⟩ := hb.bd y rfl
  show ∃ v, ((FloatKind.f64.format.read x).product (FloatKind.f64.format.read y)).map FloatKind.f64.format.write = some v
  rw [hr, hs]; exact ⟨_, rfl⟩
theorem Bs_quo {a b : Option Nat} {E F : Int} (ha : Bs E a) (hb : ∃ v, b = some v) (hg : Gd .f64 F b) (h1 : -1000 ≤ E - F) (h2 : E - F ≤ 1000) : Bs (E - F) (fop .quo .f64 a b) := by
  refine ⟨?_, Bd_quo ha.bd hg h1 h2⟩
  obtain ⟨x, rfl⟩ := ha.ex
  obtain ⟨y, rfl⟩ := hb
  obtain ⟨s, m, p, hr, _⟩ := ha.bd x rfl
  obtain ⟨t, n, q, hs, hm⟩ := hg y rfl
  have hn : n ≠ 0 := by
    rintro rfl
    obtain ⟨d, _, _, g3⟩ := hm
    rw [Nat.zero_mul] at g3; have := Nat.two_pow_pos (F + d).toNat; omega
  show ∃ v, ((FloatKind.f64.format.read x).quotient _ (FloatKind.f64.format.read y)).map FloatKind.f64.format.write = some v
  rw [hr, hs]
  simp only [Datum.quotient, if_neg hn]
  exact ⟨_, rfl⟩

theorem Bs_can {w N : Nat} {E : Int} (h : w ≤ N * 4503599627370496) (hN : 1 ≤ N) (hN2 : N ≤ 2046) (hE : (N : Int) - 1023 = E) : Bs E (can .f64 w) := by
  refine ⟨⟨w, can_num (nanW_of_le ?_)⟩, Bd_can h hN hN2 hE⟩
  rw [sw64, inf64]; omega

/-- cut in whatever way: at most one more than it is -/
theorem cut_bound (way : Toward) (s : Bool) {m : Nat} {p : Int} (E : Nat) (h : LeP m p E) : way.cut s (m <<< p.toNat) (-p).toNat ≤ 2 ^ E + 1 := by
  obtain ⟨c, h1, h2, h3⟩ := h
  have hlow : (m <<< p.toNat) / (1 <<< min (-p).toNat ((m <<< p.toNat).log2 + 2)) ≤ 2 ^ E := by
    rw [Nat.shiftLeft_eq, Nat.shiftLeft_eq, Nat.one_mul]
    by_cases hp : 0 ≤ p
    · rw [show (-p).toNat = 0 by omega, Nat.zero_min, Nat.pow_zero, Nat.div_one]
      rw [show (p + (c : Int)).toNat = p.toNat + c by omega, show ((E : Int) + (c : Int)).toNat = E + c by omega, Nat.pow_add, Nat.pow_add, ← Nat.mul_assoc] at h3
      exact Nat.le_of_mul_le_mul_right h3 (Nat.two_pow_pos _)
    · obtain ⟨d, hd⟩ : ∃ d : Nat, (-p).toNat = d := ⟨_, rfl⟩
      rw [show p.toNat = 0 by omega, Nat.pow_zero, Nat.mul_one, hd]
      by_cases hk : d ≤ m.log2 + 2
      · rw [Nat.min_eq_left hk]
        refine Nat.div_le_of_le_mul ?_
        rw [show ((E : Int) + (c : Int)).toNat = d + E + (p + (c : Int)).toNat by omega, Nat.pow_add, Nat.pow_add] at h3
        exact Nat.le_of_mul_le_mul_right h3 (Nat.two_pow_pos _)
      · rw [Nat.min_eq_right (by omega)]
        have hm : m < 2 ^ (m.log2 + 1) := Nat.lt_log2_self
        rw [Nat.div_eq_of_lt (Nat.lt_of_lt_of_le hm (Nat.pow_le_pow_right (by decide) (by omega)))]
        exact Nat.zero_le _
  unfold Toward.cut
  dsimp only
  refine Nat.add_le_add hlow (Bool.toNat_le _)

/-- 'int64(x)' of a number of at most 2 ^ 20 -/
theorem toInt_small {v : Nat} {s : Bool} {m : Nat} {p : Int} (hr : FloatKind.f64.format.read v = .number s m p) (h : LeP m p (20 : Nat)) : ∃ n, floatToIntVal .f64 v .i64 = some n := by
  have hb := cut_bound .zero s 20 h
  unfold floatToIntVal
  have hd : FloatKind.f64.decode v = .number s m p := hr
  rw [hd]
  have hto : (Datum.number s m p).toInt .zero = some (signed s (Toward.zero.cut s (m <<< p.toNat) (-p).toNat) 0) := rfl
  rw [hto]
  dsimp only
  rw [if_pos]
  · exact ⟨_, rfl⟩
  · have ha : (signed s (Toward.zero.cut s (m <<< p.toNat) (-p).toNat) 0).natAbs = Toward.zero.cut s (m <<< p.toNat) (-p).toNat := by rw [signed_abs]; simp
    show (-9223372036854775808 : Int) ≤ _ ∧ _ ≤ (9223372036854775807 : Int)
    rw [show (2 : Nat) ^ 20 = 1048576 by decide] at hb
    omega

/-- the greatest integer that is not greater -/
def floorW (v : Nat) : Nat := FloatKind.f64.encode ((FloatKind.f64.decode v).integral .down)

theorem floor_small {v : Nat} {s : Bool} {m : Nat} {p : Int} (hr : FloatKind.f64.format.read v = .number s m p) (h : LeP m p (19 : Nat)) : ∃ n, floatToIntVal .f64 (floorW v) .i64 = some n := by
  have hb := cut_bound .down s 19 h
  have hd : FloatKind.f64.decode v = .number s m p := hr
  have hw : floorW v = FloatKind.f64.format.nearest s (Toward.down.cut s (m <<< p.toNat) (-p).toNat) 0 := by unfold floorW; rw [hd]; rfl
  rw [show (2 : Nat) ^ 19 = 524288 by decide] at hb
  obtain ⟨t, m', p', hr', hl'⟩ := nearest_Bd (neg := s) (m := Toward.down.cut s (m <<< p.toNat) (-p).toNat) (p := 0) (E := ((20 : Nat) : Int)) ⟨0, by decide, by decide, by
    rw [show ((0 : Int) + ((0 : Nat) : Int)).toNat = 0 by decide, show (((20 : Nat) : Int) + ((0 : Nat) : Int)).toNat = 20 by decide, Nat.pow_zero, Nat.mul_one, show (2 : Nat) ^ 20 = 1048576 by decide]; omega⟩ (by decide) (by decide)
  rw [← hw] at hr'
  exact toInt_small hr' hl'

end Flt
open Flt Go.RowKit

theorem Bs_logF {y : Nat} (r : Rng y) : Bs 12 (logF (nW y) (nE y)) := by
  obtain ⟨h1, h2⟩ := nW_bd r
  obtain ⟨n1, n2⟩ := near_one h1 h2
  have one : Bs 0 (can .f64 4607182418800017408) := Bs_can (N := 1023) (by decide) (by decide) (by decide) (by decide)
  have hx : Bs 1 (can .f64 (nW y)) := Bs_can (N := 1024) (by omega) (by decide) (by decide) (by decide)
  have e1 := (Bs_sub hx (one.mono (by decide)) (by decide) (by decide)).ex
  have e2 := (Bs_add hx (one.mono (by decide)) (by decide) (by decide)).ex
  have hs := Bs_quo (E := -1) ⟨e1, n1⟩ e2 n2 (by decide) (by decide)
  have hu := Bs_mul hs hs (by decide) (by decide)
  have hq : ∀ j : Nat, j ≤ 13 → Bs 1 (polyL (fop .mul .f64 (fop .quo .f64 (fop .sub .f64 (can .f64 (nW y)) (can .f64 4607182418800017408)) (fop .add .f64 (can .f64 (nW y)) (can .f64 4607182418800017408))) (fop .quo .f64 (fop .sub .f64 (can .f64 (nW y)) (can .f64 4607182418800017408)) (fop .add .f64 (can .f64 (nW y)) (can .f64 4607182418800017408)))) j) := by
    intro j
    induction j with
    | zero => intro _; exact (Bs_can (N := 1) (w := 0) (by decide) (by decide) (by decide) rfl).mono (by decide)
    | succ j ih =>
      intro hj
      have h1 := Bs_mul hu (ih (by omega)) (by decide) (by decide)
      have hex : ∃ v, can .f64 (floatOfInt .f64 ((25 - 2 * j : Nat) : Int)) = some v := by
        have key : ∀ j : Fin 13, nanW .f64 (floatOfInt .f64 ((25 - 2 * j.val : Nat) : Int)) = false := by decide +kernel
        exact ⟨_, can_num (key ⟨j, by omega⟩)⟩
      have h2 := Bs_quo one hex (Gd_odd (j := j) (by omega)) (by decide) (by decide)
      exact Bs_add (E := 0) h2 (h1.mono (by decide)) (by decide) (by decide)
  have h3 := Bs_mul (Bs_can (w := 4611686018427387904) (N := 1024) (E := 1) (by decide) (by decide) (by decide) (by decide)) (Bs_mul hs (hq 13 (by decide)) (by decide) (by decide)) (by decide) (by decide)
  have hie : ∃ v, can .f64 (floatOfInt .f64 (nE y)) = some v := ⟨_, can_num (nanW_of_le (nearest_mod_le .f64 _ _ _))⟩
  have h4 := Bs_mul (E := 11) ⟨hie, Bd_int (nE_bd r)⟩ (Bs_can (w := 4604418534313441775) (N := 1023) (E := 0) (by decide) (by decide) (by decide) (by decide)) (by decide) (by decide)
  unfold logF
  exact Bs_add (E := 11) (h3.mono (by decide)) (h4.mono (by decide)) (by decide) (by decide)

/-- the tenths, before they are cut -/
def tenF (a : Option Nat) : Option Nat := fop .add .f64 (fop .mul .f64 a (can .f64 4631308968768463603)) (can .f64 4602678819172646912)

theorem tenF_some {y : Nat} (r : Rng y) : ∃ v n, tenF (logF (nW y) (nE y)) = some v ∧ (∃ s m p, FloatKind.f64.format.read v = .number s m p) ∧ floatToIntVal .f64 (floorW v) .i64 = some n := by
  have h := Bs_logF r
  have h1 := Bs_mul h (Bs_can (w := 4631308968768463603) (N := 1029) (E := 6) (by decide) (by decide) (by decide) (by decide)) (by decide) (by decide)
  have h2 := Bs_add (E := 18) (h1.mono (by decide)) ((Bs_can (w := 4602678819172646912) (N := 1023) (E := 0) (by decide) (by decide) (by decide) (by decide)).mono (by decide)) (by decide) (by decide)
  obtain ⟨v, hv⟩ := h2.ex
  obtain ⟨s, m, p, hr, hl⟩ := h2.bd v hv
  obtain ⟨n, hn⟩ := floor_small hr hl
  exact ⟨v, n, hv, ⟨s, m, p, hr⟩, hn⟩

theorem floor_run (v : Nat) (hr : ∃ s m p, FloatKind.f64.format.read v = .number s m p) (w : World) : (callFunc 52 #[.float .f64 v]).run Try.prog w = .ok (.value (.float .f64 (floorW v))) w := by
  obtain ⟨s, m, p, hr⟩ := hr
  rw [run_callFunc_extern Try.func52 (by kernel_rfl) (by kernel_rfl) (by kernel_rfl) (e := Extern.MathFloor.toIntegral "math.archFloor" .down) (by kernel_rfl)]
  have hd : FloatKind.f64.decode v = .number s m p := hr
  have hf : floorW v = FloatKind.f64.encode ((Ieee.Datum.number s m p).integral .down) := by unfold floorW; rw [hd]
  rw [hf]
  show Result.andThen (Sem.run Try.prog (match FloatKind.f64.decode v with | .nan s t => _ | d => pure (Value.float .f64 (FloatKind.f64.encode (d.integral .down)))) w) _ = _
  rw [hd]
  rfl

theorem floor_any (r v : Nat) (hrv : r = v) (hr : ∃ s m p, FloatKind.f64.format.read v = .number s m p) (w : World) :
    Calls Try.prog 41 #[.float .f64 r] w fun e w' => e = .returned (.float .f64 (floorW v)) ∧ w = w' := by
  subst hrv
  have h := fun w => floor_run r hr w
  clear hr
  go_enter Try.func41, Try.ntmps41
  go_wp2
  go_ret
  exact ⟨rfl, rfl⟩

theorem ten_word {g q r v : Nat} {c : Option Nat} (h1 : Hid (can .f64 g = c)) (h2 : Hid (can .f64 q = fop .mul .f64 (can .f64 g) (can .f64 4631308968768463603))) (h3 : Hid (can .f64 r = fop .add .f64 (can .f64 q) (can .f64 4602678819172646912))) (hv : tenF c = some v) : r = v := by
  have h3 := h3.out
  rw [h2.out, h1.out] at h3
  exact (can_eq_some (h3.trans hv)).2



theorem implTenths (x y v : Nat) (n : Int) (hf : finB .f32 x = true) (t : FloatKind.f32.format.order x 0 = some .gt) (hy : floatToFloatBits .f32 x .f64 = some y) (r : Rng y) (hv : tenF (logF (nW y) (nE y)) = some v) (hr : ∃ s m p, FloatKind.f64.format.read v = .number s m p) (hn : floatToIntVal .f64 (floorW v) .i64 = some n) (w : World) :
    Calls Try.prog 22 #[.float .f32 x] w fun e w' => e = .returned (.tuple #[.int .i64 n, .bool true]) ∧ ∃ k, w' = w.drewN k := by
  have hcv : ∀ w, (convert 29 2 (.float .f64 (floorW v))).run Try.prog w = .ok (.int .i64 n) w := fun w => run_convert_float_int w _ _ _ _ _ _ (by kernel_rfl) (by kernel_rfl) hn
  have HF := Lib.hid hf
  have Hy := Lib.hid hy
  have HV := Lib.hid hv
  have HR := Lib.hid hr
  clear hf hy hv hr hn
  go_enter Try.func22, Try.ntmps22
  go_wp2_with (first | ((with_reducible refine upon_wid_eq Hy.out ?_ ?_ ?_); rotate_left 2; rotate_left 1; kernel_rfl; kernel_rfl) | (go_at_call 39; refine (implFin _ _).mono ?_; rintro e w' ⟨rfl, k, rfl⟩; rw [HF.out]) | (go_at_call 40; refine (log_any _ r _).mono ?_; rintro e w' ⟨g, k, rfl, rfl, hc, hg⟩) | (go_at_call 41; refine (floor_any _ _ (ten_word (by assumption) (by assumption) (by assumption) HV.out) HR.out _).mono ?_; rintro e w' ⟨rfl, rfl⟩) | ((with_reducible refine upon_bin rfl ?_); intro _ _ _ _))
  go_ret2
  exact ⟨rfl, _, rfl⟩


theorem implTenInf (x : Nat) (hf : finB .f32 x = false) (w : World) :
    Calls Try.prog 22 #[.float .f32 x] w fun e w' => e = .returned (.tuple #[.int .i64 0, .bool false]) ∧ ∃ k, w' = w.drewN k := by
  have HF := Lib.hid hf
  clear hf
  go_enter Try.func22, Try.ntmps22
  go_wp2_with (go_at_call 39; refine (implFin _ _).mono ?_; rintro e w' ⟨rfl, k, rfl⟩; rw [HF.out])
  go_ret2
  exact ⟨rfl, _, rfl⟩

theorem implTenLow (x : Nat) (hf : finB .f32 x = true) (t : FloatKind.f32.format.order x 0 = some .lt ∨ FloatKind.f32.format.order x 0 = some .eq) (w : World) :
    Calls Try.prog 22 #[.float .f32 x] w fun e w' => e = .returned (.tuple #[.int .i64 0, .bool false]) ∧ ∃ k, w' = w.drewN k := by
  have HF := Lib.hid hf
  clear hf
  rcases t with t | t
  all_goals
    go_enter Try.func22, Try.ntmps22
    go_wp2_with (go_at_call 39; refine (implFin _ _).mono ?_; rintro e w' ⟨rfl, k, rfl⟩; rw [HF.out])
    go_ret2
    exact ⟨rfl, _, rfl⟩



end Go.Proofs.Ytebijgjdeofalaa
