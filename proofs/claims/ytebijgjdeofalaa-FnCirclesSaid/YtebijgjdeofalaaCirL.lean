/-
  What is proved here: the law FnCircles as a walk. Conditions: the lists are ones that a machine can hold.
-/
import Derived.Test.YtebijgjdeofalaaCirW
import Derived.Test.YtebijgjdeofalaaCirB
import Derived.Test.YtebijgjdeofalaaTabZ
namespace Go.Proofs.Ytebijgjdeofalaa
open Flt Go.RowKit

/-- a 64th of a turn -/
theorem turn_of (k : Nat) (h : k < 512) (z : Int) (hz : kI k = z) : floatBits .quo .f64 (floatOfInt .f64 z) 4634204016564240384 = some (awI z) := by
  subst hz
  exact (kn_of k h).1
theorem pha_of (k : Nat) (h : k < 512) (z : Int) (hz : kI k = z) (j : Nat) (hj : k % 64 = j) (w : World) :
    Calls Try.prog 13 #[.float .f64 (awI z)] w fun e w' => e = .returned (.complex .f32 (PR j) (PI j)) ∧ ∃ n, w' = w.drewN n := by
  subst hz hj
  exact pha_at k h w

/-- what is told of an angle -/
theorem ag_of (i : Nat) (h : i < 256) : ∃ A ang turn tt n g, floatToFloatBits .f32 (AW (i % 64)) .f64 = some A ∧ floatBits .mul .f64 A 4634204016564240384 = some ang ∧ floatBits .sub .f64 ang (floatOfInt .f64 ((i : Int) - 128)) = some turn ∧
    floatBits .add .f64 turn 4666723447345250304 = some tt ∧ floatToIntVal .f64 tt .i64 = some n ∧ (0 ≤ n ∧ n ≤ 20000) ∧ GapIs turn (floatOfInt .f64 (n - 10000)) g ∧ (FloatKind.f64.format.order g 4562254508917369340 = some .lt ∨ FloatKind.f64.format.order g 4562254508917369340 = some .eq) ∧ Int.tmod (n - 10000) 64 = 0 := by
  have hk := ag_at i h
  unfold agB at hk
  obtain ⟨A, hA, hk⟩ := onO_ok hk
  rw [andB_eq, Bool.and_eq_true] at hk
  obtain ⟨hf, hk⟩ := hk
  obtain ⟨ang, hang, hk⟩ := onO_ok hk
  obtain ⟨turn, hturn, hk⟩ := onO_ok hk
  obtain ⟨tt, htt, hk⟩ := onO_ok hk
  obtain ⟨n, hn, hk⟩ := onI_ok hk
  simp only [andB_eq, Bool.and_eq_true, decide_eq_true_eq] at hk
  obtain ⟨⟨h0, h1⟩, hg, hm⟩ := hk
  obtain ⟨g, hg, hgt⟩ := onO_ok hg
  have hA : widF (AW (i % 64)) = some A := hA
  rw [widF_eq] at hA
  rw [← ofInt_K] at hturn hg
  exact ⟨A, ang, turn, tt, n, g, wid_K hA hf, mulF_ok hang, subF_ok hturn, addF_ok htt, hn, ⟨h0, h1⟩, gap_of hg, notGt_ok hgt, hm⟩
theorem po_of (j : Nat) (h : j < 64) : ∃ r q Q g, powO (WR j) (WI j) = some r ∧ floatToFloatBits .f64 r .f32 = some q ∧ floatToFloatBits .f32 q .f64 = some Q ∧ GapIs Q 4607182418800017408 g ∧ (FloatKind.f64.format.order g 4547007122018943789 = some .lt ∨ FloatKind.f64.format.order g 4547007122018943789 = some .eq) := by
  have hk := allR_at pos j (Nat.zero_le _) (by omega)
  unfold poB at hk
  obtain ⟨r, hr, hk⟩ := onO_ok hk
  obtain ⟨q, hq, hk⟩ := onO_ok hk
  obtain ⟨Q, hQ, hk⟩ := onO_ok hk
  rw [andB_eq, Bool.and_eq_true] at hk
  obtain ⟨hf, hk⟩ := hk
  obtain ⟨g, hg, hgt⟩ := onO_ok hk
  rw [widF_eq] at hQ
  exact ⟨r, q, Q, g, hr, narF_ok hq, wid_K hQ hf, gap_of hg, notGt_ok hgt⟩
theorem near_of {r X x : Nat} (hx : floatToFloatBits .f32 x .f64 = some X) (h : nearB r X = true) : ∃ p, floatToFloatBits .f64 r .f32 = some p ∧ NearIs p x X 4547007122018943789 := by
  unfold nearB at h
  obtain ⟨p, hp, hk⟩ := onO_ok h
  obtain ⟨P, hP, hk⟩ := onO_ok hk
  rw [andB_eq, Bool.and_eq_true] at hk
  obtain ⟨hf, hk⟩ := hk
  obtain ⟨g, hg, hgt⟩ := onO_ok hk
  rw [widF_eq] at hP
  exact ⟨p, narF_ok hp, ⟨P, g, wid_K hP hf, hx, gap_of hg, notGt_ok hgt⟩⟩
/-- a product, and how near it is -/
theorem pr_of (i j k : Nat) (hi : i < 64) (hj : j < 64) (hk : (i + j) % 64 = k) : ∃ p q, (∀ w, Calls Try.prog 21 #[.complex .f32 (PR i) (PI i), .complex .f32 (PR j) (PI j)] w fun e w' => e = .returned (.complex .f32 p q) ∧ w = w') ∧
    ∀ w, Calls Try.prog 20 #[.complex .f32 p q, .complex .f32 (PR k) (PI k), .float .f64 4547007122018943789] w fun e w' => e = .returned (.bool true) ∧ w = w' := by
  have h := pr_at i j hi hj
  unfold prB at h
  rw [andB_eq, Bool.and_eq_true] at h
  obtain ⟨h1, h2⟩ := h
  obtain ⟨r, hr, h1⟩ := onO_ok h1
  obtain ⟨s, hs, h2⟩ := onO_ok h2
  have ek : Nat.mod (Nat.add i j) 64 = k := hk
  rw [ek] at h1 h2
  have hkl : k < 64 := by omega
  have a := an_of i hi
  have b := an_of j hj
  have c := an_of k hkl
  obtain ⟨p, hp, np⟩ := near_of c.px.wid h1
  obtain ⟨q, hq, nq⟩ := near_of c.py.wid h2
  exact ⟨p, q, fun w => mulC_W a.px.wid a.py.wid b.px.wid b.py.wid hr hs hp hq w, fun w => near_W np nq w⟩
theorem qr_of (m : Nat) (h : m < 4) : ∃ g, GapIs (WR (16 * m)) 0 g ∧ (FloatKind.f64.format.order g 0 = some .eq ∨ ((FloatKind.f64.format.order g 0 == some .eq) = false ∧ FloatKind.f64.format.order g 4607182418800017408 = some .eq)) := by
  have hk := allR_at qrs m (Nat.zero_le _) (by omega)
  unfold qrB at hk
  obtain ⟨g, hg, hk⟩ := onO_ok hk
  have hg : gapO (WR (16 * m)) 0 = some g := hg
  refine ⟨g, gap_of hg, ?_⟩
  have hgf : finK .f64 g = true := by
    have : ∀ m : Fin 4, finK .f64 (getO (gapO (WR (16 * m.val)) 0)) = true := by decide +kernel
    have := this ⟨m, h⟩
    rw [hg] at this
    exact this
  have h0 : (finK .f64 g && finK .f64 0) = true := by rw [hgf]; decide
  have h1 : (finK .f64 g && finK .f64 c1) = true := by rw [hgf]; decide
  have o0 := ord_K h0
  have o1 := ord_K h1
  rw [orB_eq, Bool.or_eq_true] at hk
  rw [show (4607182418800017408 : Nat) = c1 from rfl, o0, o1]
  rcases hk with hk | hk
  · left
    revert hk
    cases ordK .f64 g 0 <;> intro hk <;> first | rfl | cases hk
  · cases hq : ordK .f64 g 0 with
    | eq => exact .inl rfl
    | lt =>
      right
      refine ⟨rfl, ?_⟩
      revert hk
      cases ordK .f64 g c1 <;> intro hk <;> first | rfl | cases hk
    | gt =>
      right
      refine ⟨rfl, ?_⟩
      revert hk
      cases ordK .f64 g c1 <;> intro hk <;> first | rfl | cases hk

theorem eighth_of (i : Nat) (h1 : 1 ≤ i) (h2 : i ≤ 200) : floatBits .quo .f32 (floatOfInt .f32 (i : Int)) 1090519040 = some (xw (8 * i)) ∧ TenOf (xw (8 * i)) ((code (8 * i) : Int) - 512) := by
  have hk := allR_at eighths i h1 (by omega)
  unfold eighB at hk
  rw [andB_eq, Bool.and_eq_true] at hk
  have a := eqO_ok hk.1
  rw [quoF_eq] at a
  have b : 1 ≤ code (8 * i) := Nat.le_of_ble_eq_true hk.2
  exact ⟨by rw [ofInt_K]; exact quo_K a, tab_all (8 * i) (by omega) (by omega) b⟩
theorem code_lt (t : Nat) : code t < 1024 := Nat.mod_lt _ (by decide)
theorem pair_of (i j : Nat) (h1 : 1 ≤ i) (h2 : i ≤ 200) (h3 : 1 ≤ j) (h4 : j ≤ 200) : floatBits .mul .f32 (xw (8 * i)) (xw (8 * j)) = some (xw (i * j)) ∧ TenOf (xw (i * j)) ((code (i * j) : Int) - 512) ∧ code (8 * i) + code (8 * j) ≤ code (i * j) + 513 ∧ code (i * j) + 511 ≤ code (8 * i) + code (8 * j) := by
  have hk := pairs i j h1 h2 h3 h4
  unfold pairB at hk
  simp only [andB_eq, Bool.and_eq_true] at hk
  obtain ⟨⟨a, b⟩, c, d⟩ := hk
  have a : 1 ≤ code (i * j) := Nat.le_of_ble_eq_true a
  have b := eqO_ok b
  rw [mulF_eq] at b
  have c := Nat.le_of_ble_eq_true c
  have d := Nat.le_of_ble_eq_true d
  have hb : i * j ≤ 200 * 200 := Nat.mul_le_mul h2 h4
  have hb1 : 1 * 1 ≤ i * j := Nat.mul_le_mul h1 h3
  exact ⟨mul_K b, tab_all (i * j) (by omega) (by omega) a, c, d⟩

theorem one_ten : TenOf 1065353216 0 := by
  have h := tab_all 64 (by decide) (by decide) (by decide +kernel)
  have e1 : xw 64 = 1065353216 := by decide +kernel
  have e2 : ((code 64 : Nat) : Int) - 512 = 0 := by decide +kernel
  rw [e1, e2] at h
  exact h
theorem i_ang : ∃ A X Y, Ang 1065353216 0 X Y A ∧ (bitsV A == bitsV 0) = false ∧ WF .f32 A := by
  have h := an_of 16 (by decide)
  have e1 : PI 16 = 1065353216 := by decide +kernel
  have e2 : PR 16 = 0 := by decide +kernel
  rw [e1, e2] at h
  exact ⟨_, _, _, h, by decide +kernel, ⟨by decide +kernel⟩⟩

set_option maxRecDepth 100000 in
set_option maxHeartbeats 8000000 in
theorem lawCir (A : Option Addr) (lenA capA : Nat) (zsA : List Int) (B : Option Addr) (lenB capB : Nat) (zsB : List Int) {w : World} (ha : ListB w A lenA zsA) (hb : ListB w B lenB zsB) :
    Calls Try.prog 5 #[.slice A lenA capA, .slice B lenB capB] w fun e w' => e = .returned (.bool true) ∧ Below w.heap.size w w' := by
  obtain ⟨hsA, hrA, hallA, hmA⟩ := ha
  obtain ⟨hsB, hrB, hallB, hmB⟩ := hb
  subst hsA hsB
  unfold maxLen at hmA hmB
  have HL := Lib.hid (long_any A B zsA.length capA zsB.length capB (by omega) (by omega) w)
  cases hlong : (decide (1048576 < zsA.length) || decide (1048576 < zsB.length))
  rotate_left 1
  · rw [hlong] at HL
    clear hrA hrB hallA hallB hlong
    go_enter Try.func5, Try.ntmps5
    go_wp2_with (go_at_call 15; refine HL.out.mono ?_; rintro e w' ⟨rfl, rfl⟩)
    go_ret
    exact ⟨rfl, Below.refl _ _⟩
  rw [hlong] at HL
  rw [Bool.or_eq_false_iff] at hlong
  have hA := of_decide_eq_false hlong.1
  have hB := of_decide_eq_false hlong.2
  have HLA : Hid (zsA.length ≤ 1048576) := by show zsA.length ≤ 1048576; omega
  have HLB : Hid (zsB.length ≤ 1048576) := by show zsB.length ≤ 1048576; omega
  have RA : ∀ n, Hid (RowB (w.drewN n) w.heap.size A zsA) := fun n => hrA
  have RB : ∀ n, Hid (RowB (w.drewN n) w.heap.size B zsB) := fun n => hrB
  have RA0 := Lib.hid hrA
  have AA := Lib.hid hallA
  have AB := Lib.hid hallB
  clear hrA hrB hallA hallB hlong hA hB
  go_enter Try.func5, Try.ntmps5
  go_wp2_with (go_at_call 15; refine HL.out.mono ?_; rintro e w' ⟨rfl, rfl⟩)
  clear HL
  -- two numbers of 64ths
  refine (b10At_any A capA zsA 0 256 _ w.heap.size RA0.out AA.out HLA.out (by omega) (by omega) (by omega)).mono ?_
  rintro e w' ⟨i, hi, rfl, rfl⟩
  have hi2 : (i : Int) ≤ 255 := by omega
  go_wp2_with fail
  refine (b10At_any A capA zsA 1 256 _ w.heap.size RA0.out AA.out HLA.out (by omega) (by omega) (by omega)).mono ?_
  rintro e w' ⟨j, hj, rfl, rfl⟩
  have hj2 : (j : Int) ≤ 255 := by omega
  have q1 := run_f64 (turn_of (i + 128) (by omega) ((i : Int) - 128) (by unfold kI; omega))
  have q2 := run_f64 (turn_of (j + 128) (by omega) ((j : Int) - 128) (by unfold kI; omega))
  have q3 := run_f64 (turn_of (i + j) (by omega) ((i : Int) - 128 + ((j : Int) - 128)) (by unfold kI; omega))
  have P1 := Lib.hid (pha_of (i + 128) (by omega) ((i : Int) - 128) (by unfold kI; omega) (i % 64) (by omega))
  have P2 := Lib.hid (pha_of (j + 128) (by omega) ((j : Int) - 128) (by unfold kI; omega) (j % 64) (by omega))
  have P3 := Lib.hid (pha_of (i + j) (by omega) ((i : Int) - 128 + ((j : Int) - 128)) (by unfold kI; omega) ((i + j) % 64) rfl)
  go_wp2_with fail
  clear q1
  refine (P1.out _).mono ?_
  rintro e w' ⟨rfl, n1, rfl⟩
  go_wp2_with fail
  clear q2 P1
  refine (P2.out _).mono ?_
  rintro e w' ⟨rfl, n2, rfl⟩
  go_wp2_with fail
  clear q3 P2
  refine (P3.out _).mono ?_
  rintro e w' ⟨rfl, n3, rfl⟩
  clear P3
  have AN := an_of (i % 64) (by omega)
  have A1 := Lib.hid (angOf_any AN)
  have WX := run_w32 AN.px.wid
  obtain ⟨Aw, ang, turn, tt, n, g1, a1, a2, a3, a4, a5, ⟨a6, a7⟩, a8, a9, a10⟩ := ag_of i hi
  obtain ⟨r, q, Q, g2, b1, b2, b3, b4, b5⟩ := po_of (i % 64) (by omega)
  have PO := Lib.hid (powerOf_W AN.px.wid AN.py.wid b1 b2)
  have G1 := Lib.hid (gap_W a8)
  have G2 := Lib.hid (gap_W b4)
  obtain ⟨p5, q5, M1, M2⟩ := pr_of (i % 64) (j % 64) ((i + j) % 64) (by omega) (by omega) (by omega)
  have HM1 := Lib.hid M1
  have HM2 := Lib.hid M2
  have w1 := run_w32 a1
  have w2 := run_f64 a2
  have w3 := run_f64 a3
  have w4 := run_f64 a4
  have w5 := run_i64 a5
  have w6 := run_w32 b3
  clear AN a1 a2 a3 a4 a5 a8 b1 b2 b3 b4 M1 M2
  go_wp2_with fail
  refine (A1.out _).mono ?_
  rintro e w' ⟨rfl, n4, rfl⟩
  go_wp2_with fail
  clear w1 w2 w3 w4 w5 A1
  refine (PO.out _).mono ?_
  rintro e w' ⟨rfl, rfl⟩
  go_wp2_with fail
  clear w6 PO
  refine (G2.out _).mono ?_
  rintro e w' ⟨rfl, rfl⟩
  have b6 : (FloatKind.f64.format.order g2 4547007122018943789 == some .gt) = false := by rcases b5 with h | h <;> rw [h] <;> rfl
  have a11 : (FloatKind.f64.format.order g1 4562254508917369340 == some .gt) = false := by rcases a9 with h | h <;> rw [h] <;> rfl
  have HA11 := Lib.hid (And.intro a11 a10)
  have Q1 : (Int.tmod ((i : Int) - 128) 16 == 0) = false ∨ (∃ g3, Int.tmod ((i : Int) - 128) 16 = 0 ∧ Hid (GapIs (WR (i % 64)) 0 g3) ∧ FloatKind.f64.format.order g3 0 = some .eq) ∨
      (∃ g3, Int.tmod ((i : Int) - 128) 16 = 0 ∧ Hid (GapIs (WR (i % 64)) 0 g3) ∧ (FloatKind.f64.format.order g3 0 == some .eq) = false ∧ (FloatKind.f64.format.order g3 0 != some .eq) = true ∧ FloatKind.f64.format.order g3 4607182418800017408 = some .eq) := by
    by_cases hq : i % 16 = 0
    · right
      obtain ⟨g3, h1, h2⟩ := qr_of (i % 64 / 16) (by omega)
      rw [show 16 * (i % 64 / 16) = i % 64 by omega] at h1
      have h3 : Int.tmod ((i : Int) - 128) 16 = 0 := Int.tmod_eq_zero_of_dvd (by omega)
      rcases h2 with h2 | ⟨h2, h4⟩
      · exact .inl ⟨g3, h3, h1, h2⟩
      · exact .inr ⟨g3, h3, h1, h2, by unfold bne; rw [h2]; rfl, h4⟩
    · left
      have : ¬ Int.tmod ((i : Int) - 128) 16 = 0 := fun h => by
        have := Int.dvd_of_tmod_eq_zero h
        omega
      simpa using this
  have HQ1 := Lib.hid Q1
  clear a9 b5 a10 a11 Q1
  go_wp2_with fail
  clear b6
  refine (HM1.out _).mono ?_
  rintro e w' ⟨rfl, rfl⟩
  go_wp2_with fail
  refine (HM2.out _).mono ?_
  rintro e w' ⟨rfl, rfl⟩
  go_wp2_with fail
  clear HM1 HM2
  refine (G1.out _).mono ?_
  rintro e w' ⟨rfl, rfl⟩
  have a11 := HA11.out.1
  have a10 := HA11.out.2
  have Q1 := HQ1.out
  clear HQ1 HA11 G1 G2
  rcases Q1 with hq | ⟨g3, hq, G3, hz⟩ | ⟨g3, hq, G3, hz, hz1, hz2⟩
  all_goals
    go_wp2_with (go_at_call 18; refine (gap_W G3.out _).mono ?_; rintro e w' ⟨rfl, rfl⟩)
    clear hq a11 a10 WX
    try clear hz
    try clear hz1 hz2
    try clear G3
    -- eighths
    refine (b10At_any B capB zsB 0 200 _ w.heap.size (RB _).out AB.out HLB.out (by omega) (by omega) (by omega)).mono ?_
    rintro e w' ⟨x, hx, rfl, rfl⟩
    have hx2 : (x : Int) ≤ 199 := by omega
    obtain ⟨e1, e2⟩ := eighth_of (x + 1) (by omega) (by omega)
    rw [show ((x + 1 : Nat) : Int) = 1 + (x : Int) by omega] at e1
    have r1 := run_f32 e1
    clear e1
    go_wp2_with fail
    clear r1
    refine (b10At_any B capB zsB 1 200 _ w.heap.size (RB _).out AB.out HLB.out (by omega) (by omega) (by omega)).mono ?_
    rintro e w' ⟨y, hy, rfl, rfl⟩
    have hy2 : (y : Int) ≤ 199 := by omega
    obtain ⟨f1, f2⟩ := eighth_of (y + 1) (by omega) (by omega)
    rw [show ((y + 1 : Nat) : Int) = 1 + (y : Int) by omega] at f1
    obtain ⟨p1, p2, p3, p4⟩ := pair_of (x + 1) (y + 1) (by omega) (by omega) (by omega) (by omega)
    have l1 := code_lt (8 * (x + 1))
    have l2 := code_lt (8 * (y + 1))
    have l3 := code_lt ((x + 1) * (y + 1))
    obtain ⟨t1, ht1⟩ : ∃ t : Int, ((code (8 * (x + 1)) : Nat) : Int) - 512 = t := ⟨_, rfl⟩
    obtain ⟨t2, ht2⟩ : ∃ t : Int, ((code (8 * (y + 1)) : Nat) : Int) - 512 = t := ⟨_, rfl⟩
    obtain ⟨t3, ht3⟩ : ∃ t : Int, ((code ((x + 1) * (y + 1)) : Nat) : Int) - 512 = t := ⟨_, rfl⟩
    rw [ht1] at e2
    rw [ht2] at f2
    rw [ht3] at p2
    have s1 : -512 ≤ t1 := by omega
    have s2 : t1 ≤ 511 := by omega
    have s3 : -512 ≤ t2 := by omega
    have s4 : t2 ≤ 511 := by omega
    have s5 : -512 ≤ t3 := by omega
    have s6 : t3 ≤ 511 := by omega
    have s7 : t1 + t2 - t3 ≤ 1 := by omega
    have s8 : t3 - t1 - t2 ≤ 1 := by omega
    have r2 := run_f32 f1
    have r3 := run_f32 p1
    have T1 := Lib.hid (ten_at e2)
    have T2 := Lib.hid (ten_at f2)
    have T3 := Lib.hid (ten_at p2)
    clear e2 f1 f2 p1 p2 p3 p4 l1 l2 l3 ht1 ht2 ht3
    generalize xw (8 * (x + 1)) = X1 at *
    generalize xw (8 * (y + 1)) = X2 at *
    generalize xw ((x + 1) * (y + 1)) = X3 at *
    go_wp2_with fail
    clear r2
    refine (T1.out _).mono ?_
    rintro e w' ⟨rfl, k1, rfl⟩
    go_wp2_with fail
    refine (T2.out _).mono ?_
    rintro e w' ⟨rfl, k2, rfl⟩
    go_wp2_with fail
    refine (T3.out _).mono ?_
    rintro e w' ⟨rfl, k3, rfl⟩
    go_wp2_with fail
    clear r3 T1 T2 T3
    refine (ten_at one_ten _).mono ?_
    rintro e w' ⟨rfl, k4, rfl⟩
    go_wp2_with fail
    obtain ⟨Ai, Xi, Yi, hAi, hne, wAi⟩ := i_ang
    refine (angOf_any hAi _).mono ?_
    rintro e w' ⟨rfl, k5, rfl⟩
    have HW := Lib.hid wAi
    have HN := Lib.hid hne
    clear hAi hne wAi
    go_wp2_with fail
    refine (specSame Ai 0 HW.out ⟨by decide⟩ _).mono ?_
    rw [HN.out]
    rintro e w' ⟨rfl, k6, rfl⟩
    go_wp2_with fail
    go_ret
    exact ⟨rfl, below_drew (Below.refl _ _)⟩

end Go.Proofs.Ytebijgjdeofalaa
