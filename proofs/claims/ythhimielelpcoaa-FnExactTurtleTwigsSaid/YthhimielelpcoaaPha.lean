/-
  What is proved here: the law PhasorOf as a walk, whatever is drawn. Conditions: words fit their kinds.
-/
import Derived.Test.YthhimielelpcoaaQua
import Derived.Test.YthhimielelpcoaaCpx
namespace Go.Proofs.Ythhimielelpcoaa
open Flt Go.RowKit

theorem narrowC (a b : Nat) (ha : okNar (can .f64 a)) (hb : okNar (can .f64 b)) (w : World) :
    Calls Try.prog 169 #[.complex .f64 a b] w (CPost (nar (can .f64 a)) (nar (can .f64 b)) w) := by
  have HA := Lib.hid ha
  have HB := Lib.hid hb
  clear ha hb
  go_enter Try.func169, Try.ntmps169
  go_wp2_with (first | ((with_reducible refine upon_nar ?_ ?_ HA.out ?_); rotate_left 2; intro _ _ _ _; rotate_left 1; kernel_rfl; kernel_rfl) | ((with_reducible refine upon_nar ?_ ?_ HB.out ?_); rotate_left 2; intro _ _ _ _; rotate_left 1; kernel_rfl; kernel_rfl) | go_in)
  rename_i r n hr er s m hs es
  go_ret
  exact cpost er.out es.out

theorem sub_some {x y : Nat} {E F : Int} (hx : Bd .f64 E (some x)) (hy : Bd .f64 F (some y)) : ∃ v, fop .sub .f64 (some x) (some y) = some v := by
  obtain ⟨s, m, p, hr, _⟩ := hx x rfl
  obtain ⟨t, n, q, hs, _⟩ := hy y rfl
  show ∃ v, ((FloatKind.f64.format.read x).sum (FloatKind.f64.format.read y).opposite).map FloatKind.f64.format.write = some v
  rw [hr, hs]
  exact ⟨_, rfl⟩
theorem add_some {x y : Nat} {E F : Int} (hx : Bd .f64 E (some x)) (hy : Bd .f64 F (some y)) : ∃ v, fop .add .f64 (some x) (some y) = some v := by
  obtain ⟨s, m, p, hr, _⟩ := hx x rfl
  obtain ⟨t, n, q, hs, _⟩ := hy y rfl
  show ∃ v, ((FloatKind.f64.format.read x).sum (FloatKind.f64.format.read y)).map FloatKind.f64.format.write = some v
  rw [hr, hs]
  exact ⟨_, rfl⟩

/-- what is behind the point is a number -/
theorem frac_some {y : Nat} (h : y % FloatKind.f64.format.signWeight < 4841369599423283200) : ∃ v, fracF y = some v := by
  obtain ⟨s, m, k, hr, _, _, _, hi⟩ := trunc_small h
  have hy : can .f64 y = some y := can_num (nanW_of_le (by rw [inf64]; omega))
  have hd : ∃ d, fop .sub .f64 (can .f64 y) (can .f64 (floatOfInt .f64 (trI y))) = some d := by
    have ht : nanW .f64 (floatOfInt .f64 (trI y)) = false := by
      unfold floatOfInt
      exact nanW_of_le (nearest_mod_le .f64 _ _ _)
    rw [hy, can_num ht]
    show ∃ d, ((FloatKind.f64.format.read y).sum (FloatKind.f64.format.read (floatOfInt .f64 (trI y))).opposite).map FloatKind.f64.format.write = some d
    rw [hr]
    unfold nanW at ht
    cases hq : FloatKind.f64.format.read (floatOfInt .f64 (trI y)) with
    | number a b c => exact ⟨_, rfl⟩
    | infinity a => exact ⟨_, rfl⟩
    | nan a b => rw [hq] at ht; cases ht
  obtain ⟨d, hd⟩ := hd
  have hb : Bd .f64 0 (some d) := by rw [← hd]; exact Bd_frac h
  unfold fracF
  rw [hd]
  dsimp only
  split
  · rw [show can .f64 4607182418800017408 = some 4607182418800017408 from by decide]
    exact add_some hb (by have := Bd_one; rwa [show can .f64 4607182418800017408 = some 4607182418800017408 from by decide] at this)
  · exact ⟨d, rfl⟩

/-- the parts, by how many quarters have been taken -/
def phaR (c s : Option Nat) (K : Nat) : Option Nat :=
  if K = 1 then nar (fop .sub .f64 (can .f64 0) s) else if K = 2 then nar (fop .sub .f64 (can .f64 0) c) else if K = 3 then nar s else nar c
def phaI (c s : Option Nat) (K : Nat) : Option Nat :=
  if K = 1 then nar c else if K = 2 then nar (fop .sub .f64 (can .f64 0) s) else if K = 3 then nar (fop .sub .f64 (can .f64 0) c) else nar s

theorem Bd_zero : Bd .f64 110 (can .f64 0) := by
  have := Bd_can (w := 0) (N := 1) (E := -1022) (by decide) (by decide) (by decide) (by decide)
  exact this.mono (by decide)
theorem ok_sub0 {r : Nat} {a : Option Nat} {g : Nat} (h : Hid (can .f64 r = fop .sub .f64 (can .f64 0) (can .f64 g))) (hg : Hid (can .f64 g = a)) (ha : Bd .f64 110 a) : okNar (can .f64 r) := by
  rw [h.out, hg.out]; exact okNar_of_Bd (Bd_sub Bd_zero ha (by decide) (by decide)) (by decide)
theorem ok_same {g : Nat} {a : Option Nat} (hg : Hid (can .f64 g = a)) (ha : Bd .f64 110 a) : okNar (can .f64 g) := by
  rw [hg.out]; exact okNar_of_Bd ha (by decide)

/-- what is known of a number less than 2 ^ 52 -/
structure Known (y : Nat) (n : Int) (K v u : Nat) (nu nv : Int) : Prop where
  int : floatToIntVal .f64 y .i64 = some n
  most : K ≤ 4611686018427387904
  more : ∀ j, j < K → geB (quaF (fracF y) j) (can .f64 4598175219545276416) = true
  last : geB (quaF (fracF y) K) (can .f64 4598175219545276416) = false
  rest : quaF (fracF y) K = some v
  less : fop .sub .f64 (can .f64 4598175219545276416) (some v) = some u
  intu : floatToIntVal .f64 u .i64 = some nu
  intv : floatToIntVal .f64 v .i64 = some nv
  lowu : u % FloatKind.f64.format.signWeight < 4841369599423283200
  lowv : v % FloatKind.f64.format.signWeight < 4841369599423283200

theorem upon_bin_eq {P : Program} {o : Oper} {a : Act} {K : Act → World → Prop} {Q : Exit → Act → World → Prop} {op : BinOp} {t : TypeId} {k : FloatKind} {x y u : Nat} {w : World} {f : Value → World → Result Next} (hu : fop op k (can k x) (can k y) = some u) (hop : arith op = true)
    (h : ∀ n, Oper.upon P o a K Q (f (.float k u) (w.drewN n))) :
    Oper.upon P o a K Q ((Sem.run P (binOp op t (.float k x) (.float k y)) w).andThen f) := by
  refine upon_bin hop ?_
  intro r n _ hc
  have hc := hc.out
  rw [hu] at hc
  obtain ⟨_, rfl⟩ := can_eq_some hc
  exact h n

theorem ge_yes {x y : Nat} {a : Option Nat} (ha : can .f64 x = a) (h : geB a (can .f64 y) = true) : FloatKind.f64.format.order x y = some .gt ∨ FloatKind.f64.format.order x y = some .eq := by
  unfold geB at h
  rw [← ha, ← ford_can] at h
  revert h
  generalize FloatKind.f64.format.order x y = o
  intro h
  rcases o with _ | (_ | _ | _)
  · cases h
  · cases h
  · exact .inr rfl
  · exact .inl rfl
theorem ge_no {x y : Nat} {a : Option Nat} (ha : can .f64 x = a) (h : geB a (can .f64 y) = false) : (FloatKind.f64.format.order x y == some .gt) = false ∧ (FloatKind.f64.format.order x y == some .eq) = false := by
  unfold geB at h
  rw [← ha, ← ford_can] at h
  exact Bool.or_eq_false_iff.1 h

theorem pha_most {K : Nat} (h : K ≤ 4611686018427387904) : (K : Int) ≤ 4611686018427387904 := by omega

theorem pha_cases (K : Nat) : (((K : Int) == 1) = true ∧ K = 1) ∨ (((K : Int) == 1) = false ∧ ((K : Int) == 2) = true ∧ K = 2) ∨ (((K : Int) == 1) = false ∧ ((K : Int) == 2) = false ∧ ((K : Int) == 3) = true ∧ K = 3) ∨
    (((K : Int) == 1) = false ∧ ((K : Int) == 2) = false ∧ ((K : Int) == 3) = false ∧ ¬ K = 1 ∧ ¬ K = 2 ∧ ¬ K = 3) := by
  simp; omega

theorem phaR1 (c s : Option Nat) : phaR c s 1 = nar (fop .sub .f64 (can .f64 0) s) := rfl
theorem phaI1 (c s : Option Nat) : phaI c s 1 = nar c := rfl
theorem phaR2 (c s : Option Nat) : phaR c s 2 = nar (fop .sub .f64 (can .f64 0) c) := rfl
theorem phaI2 (c s : Option Nat) : phaI c s 2 = nar (fop .sub .f64 (can .f64 0) s) := rfl
theorem phaR3 (c s : Option Nat) : phaR c s 3 = nar s := rfl
theorem phaI3 (c s : Option Nat) : phaI c s 3 = nar (fop .sub .f64 (can .f64 0) c) := rfl
theorem phaR0 {c s : Option Nat} {K : Nat} (h1 : ¬ K = 1) (h2 : ¬ K = 2) (h3 : ¬ K = 3) : phaR c s K = nar c := by unfold phaR; rw [if_neg h1, if_neg h2, if_neg h3]
theorem phaI0 {c s : Option Nat} {K : Nat} (h1 : ¬ K = 1) (h2 : ¬ K = 2) (h3 : ¬ K = 3) : phaI c s K = nar s := by unfold phaI; rw [if_neg h1, if_neg h2, if_neg h3]

set_option maxHeartbeats 4000000 in
theorem implPha (y : Nat) (n : Int) (K v u : Nat) (nu nv : Int) (hk : Known y n K v u nu nv) (hw : WF .f64 y) (hsm : y % FloatKind.f64.format.signWeight < 4841369599423283200) (w : World) :
    Calls Try.prog 132 #[.float .f64 y] w (CPost (phaR (sineF (fracF u)) (sineF (fracF v)) K) (phaI (sineF (fracF u)) (sineF (fracF v)) K) w) := by
  have HK := Lib.hid hk
  have hn0 : nanW .f64 y = false := nanW_of_le (by rw [inf64]; omega)
  have h1 : (FloatKind.f64.format.order y y != some .eq) = false := by rw [self_ne, hn0]
  have h2 : infB y = false := by rw [infB_of (by rw [inf64]; omega), decide_eq_false (by rw [inf64]; omega)]
  have hb := big_abs (y := y) (by rw [inf64]; omega)
  rw [decide_eq_false (by omega), Bool.or_eq_false_iff] at hb
  obtain ⟨h3, h4⟩ := hb
  have HW := hw
  have BU : Bd .f64 110 (sineF (fracF u)) := Bd_sineF (Bd_fracF hk.lowu)
  have BV : Bd .f64 110 (sineF (fracF v)) := Bd_sineF (Bd_fracF hk.lowv)
  have hKm := pha_most hk.most
  clear hk hn0 hsm
  go_enter Try.func132, Try.ntmps132
  go_wp2_with (first | (go_at_call 151; refine (isInf_any _ (by assumption) _).mono ?_; rintro e w' ⟨rfl, hh⟩; obtain rfl := hh.symm; clear hh) | (go_at_call 166; refine (abs_any _ (by assumption) _).mono ?_; rintro e w' ⟨rfl, hh⟩; obtain rfl := hh.symm; clear hh) | (go_at_call 167; refine (frac_any _ _ HK.out.int _).mono ?_; rintro e w' ⟨g, n, rfl, rfl, hc, hg⟩) | go_in)
  clear h1 h2 h3 h4
  go_loopw [3, 4] (fun f q wr => ∃ j : Nat, j ≤ K ∧ q = .int .i64 j ∧ ∃ fw m, f = .float .f64 fw ∧ wr = w.drewN m ∧ Hid (can .f64 fw = quaF (fracF y) j)) (fun _ q _ => K - (intOf q).toNat)
  case atStart => exact ⟨0, Nat.zero_le _, rfl, _, _, rfl, rfl, hc⟩
  case round =>
    obtain ⟨j, hj, rfl, fw, m, rfl, rfl, hf⟩ := hrel
    by_cases hlt : j < K
    · have hge := HK.out.more j hlt
      rcases ge_yes hf.out hge with ho | ho
      · clear hge
        go_wp2_with ((with_reducible refine upon_bin rfl ?_); intro _ _ _ _)
        rename_i r n2 wr er
        go_roundw
        case rel => exact ⟨j + 1, by omega, by go_num, _, _, rfl, rfl, by show can .f64 r = _; rw [er.out, hf.out]; rfl⟩
        case measure => simp [intOf]; omega
      · clear hge
        go_wp2_with ((with_reducible refine upon_bin rfl ?_); intro _ _ _ _)
        rename_i r n2 wr er
        go_roundw
        case rel => exact ⟨j + 1, by omega, by go_num, _, _, rfl, rfl, by show can .f64 r = _; rw [er.out, hf.out]; rfl⟩
        case measure => simp [intOf]; omega
    · obtain rfl : j = K := by omega
      have hl := HK.out.last
      obtain ⟨o1, o2⟩ := ge_no hf.out hl
      have hv := hf.out.trans HK.out.rest
      obtain ⟨hnv, rfl⟩ := can_eq_some hv
      have hless := HK.out.less
      rw [← can_num hnv] at hless
      have HL := Lib.hid hless
      clear hl hv hnv hf hless hlt hj
      rcases pha_cases j with ⟨c1, e1⟩ | ⟨c1, c2, e2⟩ | ⟨c1, c2, c3, e3⟩ | ⟨c1, c2, c3, e1, e2, e3⟩
      · have E := Lib.hid e1
        clear e1
        go_wp2_with (first | (go_at_call 168; ((with_reducible refine (sine_any u _ HK.out.intu _).mono ?_); rintro e w' ⟨g1, n1, rfl, rfl, hc1, hg1⟩)) | (go_at_call 168; ((with_reducible refine (sine_any fw _ HK.out.intv _).mono ?_); rintro e w' ⟨g2, n2, rfl, rfl, hc2, hg2⟩)) | (go_at_call 169; refine (narrowC _ _ (by first | exact ok_same (by assumption) (by assumption) | exact ok_sub0 (by assumption) (by assumption) (by assumption)) (by first | exact ok_same (by assumption) (by assumption) | exact ok_sub0 (by assumption) (by assumption) (by assumption)) _).mono ?_; rintro e w' ⟨p1, p2, m1, rfl, rfl, hp1, hp2⟩) | ((with_reducible refine upon_bin_eq HL.out rfl ?_); intro _) | ((with_reducible refine upon_bin rfl ?_); intro _ _ _ _))
        rename_i r n3 wr er
        go_ret
        exact cpost (by rw [hp1.out, er.out, hc2.out, E.out, phaR1]) (by rw [hp2.out, hc1.out, E.out, phaI1])
      · have E := Lib.hid e2
        clear e2
        go_wp2_with (first | (go_at_call 168; ((with_reducible refine (sine_any u _ HK.out.intu _).mono ?_); rintro e w' ⟨g1, n1, rfl, rfl, hc1, hg1⟩)) | (go_at_call 168; ((with_reducible refine (sine_any fw _ HK.out.intv _).mono ?_); rintro e w' ⟨g2, n2, rfl, rfl, hc2, hg2⟩)) | (go_at_call 169; refine (narrowC _ _ (by first | exact ok_same (by assumption) (by assumption) | exact ok_sub0 (by assumption) (by assumption) (by assumption)) (by first | exact ok_same (by assumption) (by assumption) | exact ok_sub0 (by assumption) (by assumption) (by assumption)) _).mono ?_; rintro e w' ⟨p1, p2, m1, rfl, rfl, hp1, hp2⟩) | ((with_reducible refine upon_bin_eq HL.out rfl ?_); intro _) | ((with_reducible refine upon_bin rfl ?_); intro _ _ _ _))
        rename_i r n3 wr er s n4 ws es
        go_ret
        exact cpost (by rw [hp1.out, er.out, hc1.out, E.out, phaR2]) (by rw [hp2.out, es.out, hc2.out, E.out, phaI2])
      · have E := Lib.hid e3
        clear e3
        go_wp2_with (first | (go_at_call 168; ((with_reducible refine (sine_any u _ HK.out.intu _).mono ?_); rintro e w' ⟨g1, n1, rfl, rfl, hc1, hg1⟩)) | (go_at_call 168; ((with_reducible refine (sine_any fw _ HK.out.intv _).mono ?_); rintro e w' ⟨g2, n2, rfl, rfl, hc2, hg2⟩)) | (go_at_call 169; refine (narrowC _ _ (by first | exact ok_same (by assumption) (by assumption) | exact ok_sub0 (by assumption) (by assumption) (by assumption)) (by first | exact ok_same (by assumption) (by assumption) | exact ok_sub0 (by assumption) (by assumption) (by assumption)) _).mono ?_; rintro e w' ⟨p1, p2, m1, rfl, rfl, hp1, hp2⟩) | ((with_reducible refine upon_bin_eq HL.out rfl ?_); intro _) | ((with_reducible refine upon_bin rfl ?_); intro _ _ _ _))
        rename_i r n3 wr er
        go_ret
        exact cpost (by rw [hp1.out, hc2.out, E.out, phaR3]) (by rw [hp2.out, er.out, hc1.out, E.out, phaI3])
      · have E1 := Lib.hid e1
        have E2 := Lib.hid e2
        have E3 := Lib.hid e3
        clear e1 e2 e3
        go_wp2_with (first | (go_at_call 168; ((with_reducible refine (sine_any u _ HK.out.intu _).mono ?_); rintro e w' ⟨g1, n1, rfl, rfl, hc1, hg1⟩)) | (go_at_call 168; ((with_reducible refine (sine_any fw _ HK.out.intv _).mono ?_); rintro e w' ⟨g2, n2, rfl, rfl, hc2, hg2⟩)) | (go_at_call 169; refine (narrowC _ _ (by first | exact ok_same (by assumption) (by assumption) | exact ok_sub0 (by assumption) (by assumption) (by assumption)) (by first | exact ok_same (by assumption) (by assumption) | exact ok_sub0 (by assumption) (by assumption) (by assumption)) _).mono ?_; rintro e w' ⟨p1, p2, m1, rfl, rfl, hp1, hp2⟩) | ((with_reducible refine upon_bin_eq HL.out rfl ?_); intro _) | ((with_reducible refine upon_bin rfl ?_); intro _ _ _ _))
        go_ret
        exact cpost (by rw [hp1.out, hc1.out, phaR0 E1.out E2.out E3.out]) (by rw [hp2.out, hc2.out, phaI0 E1.out E2.out E3.out])

theorem specLow (y : Nat) (h : y % FloatKind.f64.format.signWeight < 4841369599423283200) (w : World) : Calls Try.prog 162 #[.float .f64 y] w (FPost .f64 (sineF (fracF y)) w) := by
  obtain ⟨s, m, k, _, _, _, _, hi⟩ := trunc_small h
  obtain ⟨b1, b2, b3, b4⟩ := small_signed h
  exact specSine y _ hi (decide_eq_true (by rw [inf64]; omega)) b1 b2 b3 b4 w

set_option maxHeartbeats 8000000 in
theorem specPha (y : Nat) (n : Int) (K v u : Nat) (nu nv : Int) (hk : Known y n K v u nu nv) (hsm : y % FloatKind.f64.format.signWeight < 4841369599423283200) (w : World) :
    Calls Try.prog 126 #[.float .f64 y] w (CPost (phaR (sineF (fracF u)) (sineF (fracF v)) K) (phaI (sineF (fracF u)) (sineF (fracF v)) K) w) := by
  have HK := Lib.hid hk
  have Hf : Hid (finB .f64 y = true) := decide_eq_true (by rw [inf64]; omega)
  have hcv : ∀ w, (convert 48 2 (.float .f64 y)).run Try.prog w = .ok (.int .i64 n) w := fun w => run_convert_float_int w _ _ _ _ _ _ (by kernel_rfl) (by kernel_rfl) hk.int
  have ht : Hid (trI y = n) := by unfold trI; rw [hk.int]; exact rfl
  obtain ⟨B1, B2, B3, B4⟩ := small_signed hsm
  have BU : Bd .f64 110 (sineF (fracF u)) := Bd_sineF (Bd_fracF hk.lowu)
  have BV : Bd .f64 110 (sineF (fracF v)) := Bd_sineF (Bd_fracF hk.lowv)
  have hKm := pha_most hk.most
  clear hk hsm
  go_enter Try.func126, Try.ntmps126
  go_wp2_with (first | ((with_reducible refine upon_self_yes Hf.out ?_); intro _ _ _ _) | ((with_reducible refine upon_bin rfl ?_); intro _ _ _ _) | go_in)
  · rename_i r0 n0 w0 e0 r1 n1 w1 e1 h0 g n2 w2 e2 K0 hK0
    have H0 := lt_t e1.out rfl h0
    have hc : Hid (can .f64 g = fracF y) := by show can .f64 g = fracF y; unfold fracF; rw [ht.out]; simp only [H0, if_true]; rw [e2.out, e1.out]
    clear h0 H0 e0 e1 e2
    clear B1 B2 B3 B4 hcv
    go_loopw [3, 4] (fun f q wr => ∃ j : Nat, j ≤ K ∧ q = .int .i64 j ∧ ∃ fw m, f = .float .f64 fw ∧ wr = w.drewN m ∧ Hid (can .f64 fw = quaF (fracF y) j)) (fun _ q _ => K - (intOf q).toNat)
    case atStart => exact ⟨0, Nat.zero_le _, rfl, _, _, rfl, rfl, hc⟩
    case round =>
      obtain ⟨j, hj, rfl, fw, m, rfl, rfl, hf⟩ := hrel
      by_cases hlt : j < K
      · have hge := HK.out.more j hlt
        rcases ge_yes hf.out hge with ho | ho
        · clear hge
          go_wp2_with ((with_reducible refine upon_bin rfl ?_); intro _ _ _ _)
          rename_i r n2 wr er
          go_roundw
          case rel => exact ⟨j + 1, by omega, by go_num, _, _, rfl, rfl, by show can .f64 r = _; rw [er.out, hf.out]; rfl⟩
          case measure => simp [intOf]; omega
        · clear hge
          go_wp2_with ((with_reducible refine upon_bin rfl ?_); intro _ _ _ _)
          rename_i r n2 wr er
          go_roundw
          case rel => exact ⟨j + 1, by omega, by go_num, _, _, rfl, rfl, by show can .f64 r = _; rw [er.out, hf.out]; rfl⟩
          case measure => simp [intOf]; omega
      · obtain rfl : j = K := by omega
        have hl := HK.out.last
        obtain ⟨o1, o2⟩ := ge_no hf.out hl
        have hv := hf.out.trans HK.out.rest
        obtain ⟨hnv, rfl⟩ := can_eq_some hv
        have hless := HK.out.less
        rw [← can_num hnv] at hless
        have HL := Lib.hid hless
        clear hl hv hnv hf hless hlt hj
        rcases pha_cases j with ⟨c1, e1⟩ | ⟨c1, c2, e2⟩ | ⟨c1, c2, c3, e3⟩ | ⟨c1, c2, c3, e1, e2, e3⟩
        · have E := Lib.hid e1
          clear e1
          go_wp2_with (first | (go_at_call 162; ((with_reducible refine (specLow u HK.out.lowu _).mono ?_); rintro e w' ⟨g1, n1, rfl, rfl, hc1, hg1⟩)) | (go_at_call 162; ((with_reducible refine (specLow fw HK.out.lowv _).mono ?_); rintro e w' ⟨g2, n2, rfl, rfl, hc2, hg2⟩)) | ((with_reducible refine upon_nar ?_ ?_ (by first | exact ok_same (by assumption) (by assumption) | exact ok_sub0 (by assumption) (by assumption) (by assumption)) ?_); rotate_left 2; intro _ _ _ _; rotate_left 1; kernel_rfl; kernel_rfl) | ((with_reducible refine upon_bin_eq HL.out rfl ?_); intro _) | ((with_reducible refine upon_bin rfl ?_); intro _ _ _ _) | go_in)
          rename_i r n3 wr er a1 b1 d1 f1 a2 b2 d2 f2
          go_ret
          exact cpost (by rw [f1.out, er.out, hc2.out, E.out, phaR1]) (by rw [f2.out, hc1.out, E.out, phaI1])
        · have E := Lib.hid e2
          clear e2
          go_wp2_with (first | (go_at_call 162; ((with_reducible refine (specLow u HK.out.lowu _).mono ?_); rintro e w' ⟨g1, n1, rfl, rfl, hc1, hg1⟩)) | (go_at_call 162; ((with_reducible refine (specLow fw HK.out.lowv _).mono ?_); rintro e w' ⟨g2, n2, rfl, rfl, hc2, hg2⟩)) | ((with_reducible refine upon_nar ?_ ?_ (by first | exact ok_same (by assumption) (by assumption) | exact ok_sub0 (by assumption) (by assumption) (by assumption)) ?_); rotate_left 2; intro _ _ _ _; rotate_left 1; kernel_rfl; kernel_rfl) | ((with_reducible refine upon_bin_eq HL.out rfl ?_); intro _) | ((with_reducible refine upon_bin rfl ?_); intro _ _ _ _) | go_in)
          rename_i r n3 wr er a1 b1 d1 f1 s n4 ws es a2 b2 d2 f2
          go_ret
          exact cpost (by rw [f1.out, er.out, hc1.out, E.out, phaR2]) (by rw [f2.out, es.out, hc2.out, E.out, phaI2])
        · have E := Lib.hid e3
          clear e3
          go_wp2_with (first | (go_at_call 162; ((with_reducible refine (specLow u HK.out.lowu _).mono ?_); rintro e w' ⟨g1, n1, rfl, rfl, hc1, hg1⟩)) | (go_at_call 162; ((with_reducible refine (specLow fw HK.out.lowv _).mono ?_); rintro e w' ⟨g2, n2, rfl, rfl, hc2, hg2⟩)) | ((with_reducible refine upon_nar ?_ ?_ (by first | exact ok_same (by assumption) (by assumption) | exact ok_sub0 (by assumption) (by assumption) (by assumption)) ?_); rotate_left 2; intro _ _ _ _; rotate_left 1; kernel_rfl; kernel_rfl) | ((with_reducible refine upon_bin_eq HL.out rfl ?_); intro _) | ((with_reducible refine upon_bin rfl ?_); intro _ _ _ _) | go_in)
          rename_i a1 b1 d1 f1 r n3 wr er a2 b2 d2 f2
          go_ret
          exact cpost (by rw [f1.out, hc2.out, E.out, phaR3]) (by rw [f2.out, er.out, hc1.out, E.out, phaI3])
        · have E1 := Lib.hid e1
          have E2 := Lib.hid e2
          have E3 := Lib.hid e3
          clear e1 e2 e3
          go_wp2_with (first | (go_at_call 162; ((with_reducible refine (specLow u HK.out.lowu _).mono ?_); rintro e w' ⟨g1, n1, rfl, rfl, hc1, hg1⟩)) | (go_at_call 162; ((with_reducible refine (specLow fw HK.out.lowv _).mono ?_); rintro e w' ⟨g2, n2, rfl, rfl, hc2, hg2⟩)) | ((with_reducible refine upon_nar ?_ ?_ (by first | exact ok_same (by assumption) (by assumption) | exact ok_sub0 (by assumption) (by assumption) (by assumption)) ?_); rotate_left 2; intro _ _ _ _; rotate_left 1; kernel_rfl; kernel_rfl) | ((with_reducible refine upon_bin_eq HL.out rfl ?_); intro _) | ((with_reducible refine upon_bin rfl ?_); intro _ _ _ _) | go_in)
          rename_i a1 b1 d1 f1 a2 b2 d2 f2
          go_ret
          exact cpost (by rw [f1.out, hc1.out, phaR0 E1.out E2.out E3.out]) (by rw [f2.out, hc2.out, phaI0 E1.out E2.out E3.out])
  · rename_i r0 n0 w0 e0 g n1 w1 e1 h0 K0 hK0
    have H0 := lt_t e1.out rfl h0
    have hc : Hid (can .f64 g = fracF y) := by show can .f64 g = fracF y; unfold fracF; rw [ht.out]; simp only [H0, Bool.false_eq_true, if_false]; rw [e1.out]
    clear h0 H0 e0 e1
    clear B1 B2 B3 B4 hcv
    go_loopw [3, 4] (fun f q wr => ∃ j : Nat, j ≤ K ∧ q = .int .i64 j ∧ ∃ fw m, f = .float .f64 fw ∧ wr = w.drewN m ∧ Hid (can .f64 fw = quaF (fracF y) j)) (fun _ q _ => K - (intOf q).toNat)
    case atStart => exact ⟨0, Nat.zero_le _, rfl, _, _, rfl, rfl, hc⟩
    case round =>
      obtain ⟨j, hj, rfl, fw, m, rfl, rfl, hf⟩ := hrel
      by_cases hlt : j < K
      · have hge := HK.out.more j hlt
        rcases ge_yes hf.out hge with ho | ho
        · clear hge
          go_wp2_with ((with_reducible refine upon_bin rfl ?_); intro _ _ _ _)
          rename_i r n2 wr er
          go_roundw
          case rel => exact ⟨j + 1, by omega, by go_num, _, _, rfl, rfl, by show can .f64 r = _; rw [er.out, hf.out]; rfl⟩
          case measure => simp [intOf]; omega
        · clear hge
          go_wp2_with ((with_reducible refine upon_bin rfl ?_); intro _ _ _ _)
          rename_i r n2 wr er
          go_roundw
          case rel => exact ⟨j + 1, by omega, by go_num, _, _, rfl, rfl, by show can .f64 r = _; rw [er.out, hf.out]; rfl⟩
          case measure => simp [intOf]; omega
      · obtain rfl : j = K := by omega
        have hl := HK.out.last
        obtain ⟨o1, o2⟩ := ge_no hf.out hl
        have hv := hf.out.trans HK.out.rest
        obtain ⟨hnv, rfl⟩ := can_eq_some hv
        have hless := HK.out.less
        rw [← can_num hnv] at hless
        have HL := Lib.hid hless
        clear hl hv hnv hf hless hlt hj
        rcases pha_cases j with ⟨c1, e1⟩ | ⟨c1, c2, e2⟩ | ⟨c1, c2, c3, e3⟩ | ⟨c1, c2, c3, e1, e2, e3⟩
        · have E := Lib.hid e1
          clear e1
          go_wp2_with (first | (go_at_call 162; ((with_reducible refine (specLow u HK.out.lowu _).mono ?_); rintro e w' ⟨g1, n1, rfl, rfl, hc1, hg1⟩)) | (go_at_call 162; ((with_reducible refine (specLow fw HK.out.lowv _).mono ?_); rintro e w' ⟨g2, n2, rfl, rfl, hc2, hg2⟩)) | ((with_reducible refine upon_nar ?_ ?_ (by first | exact ok_same (by assumption) (by assumption) | exact ok_sub0 (by assumption) (by assumption) (by assumption)) ?_); rotate_left 2; intro _ _ _ _; rotate_left 1; kernel_rfl; kernel_rfl) | ((with_reducible refine upon_bin_eq HL.out rfl ?_); intro _) | ((with_reducible refine upon_bin rfl ?_); intro _ _ _ _) | go_in)
          rename_i r n3 wr er a1 b1 d1 f1 a2 b2 d2 f2
          go_ret
          exact cpost (by rw [f1.out, er.out, hc2.out, E.out, phaR1]) (by rw [f2.out, hc1.out, E.out, phaI1])
        · have E := Lib.hid e2
          clear e2
          go_wp2_with (first | (go_at_call 162; ((with_reducible refine (specLow u HK.out.lowu _).mono ?_); rintro e w' ⟨g1, n1, rfl, rfl, hc1, hg1⟩)) | (go_at_call 162; ((with_reducible refine (specLow fw HK.out.lowv _).mono ?_); rintro e w' ⟨g2, n2, rfl, rfl, hc2, hg2⟩)) | ((with_reducible refine upon_nar ?_ ?_ (by first | exact ok_same (by assumption) (by assumption) | exact ok_sub0 (by assumption) (by assumption) (by assumption)) ?_); rotate_left 2; intro _ _ _ _; rotate_left 1; kernel_rfl; kernel_rfl) | ((with_reducible refine upon_bin_eq HL.out rfl ?_); intro _) | ((with_reducible refine upon_bin rfl ?_); intro _ _ _ _) | go_in)
          rename_i r n3 wr er a1 b1 d1 f1 s n4 ws es a2 b2 d2 f2
          go_ret
          exact cpost (by rw [f1.out, er.out, hc1.out, E.out, phaR2]) (by rw [f2.out, es.out, hc2.out, E.out, phaI2])
        · have E := Lib.hid e3
          clear e3
          go_wp2_with (first | (go_at_call 162; ((with_reducible refine (specLow u HK.out.lowu _).mono ?_); rintro e w' ⟨g1, n1, rfl, rfl, hc1, hg1⟩)) | (go_at_call 162; ((with_reducible refine (specLow fw HK.out.lowv _).mono ?_); rintro e w' ⟨g2, n2, rfl, rfl, hc2, hg2⟩)) | ((with_reducible refine upon_nar ?_ ?_ (by first | exact ok_same (by assumption) (by assumption) | exact ok_sub0 (by assumption) (by assumption) (by assumption)) ?_); rotate_left 2; intro _ _ _ _; rotate_left 1; kernel_rfl; kernel_rfl) | ((with_reducible refine upon_bin_eq HL.out rfl ?_); intro _) | ((with_reducible refine upon_bin rfl ?_); intro _ _ _ _) | go_in)
          rename_i a1 b1 d1 f1 r n3 wr er a2 b2 d2 f2
          go_ret
          exact cpost (by rw [f1.out, hc2.out, E.out, phaR3]) (by rw [f2.out, er.out, hc1.out, E.out, phaI3])
        · have E1 := Lib.hid e1
          have E2 := Lib.hid e2
          have E3 := Lib.hid e3
          clear e1 e2 e3
          go_wp2_with (first | (go_at_call 162; ((with_reducible refine (specLow u HK.out.lowu _).mono ?_); rintro e w' ⟨g1, n1, rfl, rfl, hc1, hg1⟩)) | (go_at_call 162; ((with_reducible refine (specLow fw HK.out.lowv _).mono ?_); rintro e w' ⟨g2, n2, rfl, rfl, hc2, hg2⟩)) | ((with_reducible refine upon_nar ?_ ?_ (by first | exact ok_same (by assumption) (by assumption) | exact ok_sub0 (by assumption) (by assumption) (by assumption)) ?_); rotate_left 2; intro _ _ _ _; rotate_left 1; kernel_rfl; kernel_rfl) | ((with_reducible refine upon_bin_eq HL.out rfl ?_); intro _) | ((with_reducible refine upon_bin rfl ?_); intro _ _ _ _) | go_in)
          rename_i a1 b1 d1 f1 a2 b2 d2 f2
          go_ret
          exact cpost (by rw [f1.out, hc1.out, phaR0 E1.out E2.out E3.out]) (by rw [f2.out, hc2.out, phaI0 E1.out E2.out E3.out])

end Go.Proofs.Ythhimielelpcoaa
