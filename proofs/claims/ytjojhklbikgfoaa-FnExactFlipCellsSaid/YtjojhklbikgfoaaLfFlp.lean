/-
  What is proved here: the law FnExactFlipCells, as a walk. Conditions: the fields and lists are ones that a machine can hold.
-/
import Derived.Test.YtjojhklbikgfoaaFfo
import Derived.Test.YtjojhklbikgfoaaFio
import Derived.Deep.RegionHeld3
import Derived.Test.YtjojhklbikgfoaaLvi
namespace Go.Proofs.Ytjojhklbikgfoaa
open Go.RowKit
set_option linter.unusedVariables false

set_option maxHeartbeats 16000000 in
set_option maxRecDepth 1000000 in
theorem lawFlp (x0 y0 : Int) (A0 : Option Addr) (n0 c0 : Nat) (p0 : Nat → Bool) (A1 : Option Addr) (n1 c1 : Nat) (z1 : List Int) {w : World} (hl0 : FieldIn w x0 y0 A0 n0 p0) (hl1 : ListI w A1 n1 z1)  :
    Calls Try.prog 3 #[.agg #[.int .i64 x0, .int .i64 y0, .slice A0 n0 c0], .slice A1 n1 c1] w fun e w' => e = .returned (.bool true) ∧ Below w.heap.size w w' := by
  obtain ⟨hrow0, hN0, hwx0, hwy0⟩ := hl0
  obtain ⟨hsz1, hrowi1, hmax1⟩ := hl1
  subst hsz1
  have hN1 : z1.length ≤ 9223372036854775807 := by unfold maxLen at hmax1; omega
  have hrow1 : RowV w w.heap.size A1 z1.length (iv (atI z1)) := hrowi1
  clear hrowi1 hmax1
  by_cases hbig1 : 1048576 < z1.length
  · clear hrow0 hrow1
    have HB0 := Lib.hid (below_var w x0 y0 A0 n0 c0 24)
    go_enter Try.func3, Try.ntmps3
    go_wp2
    go_ret
    exact ⟨rfl, HB0.out⟩
  have hn1 : z1.length ≤ 1048576 := by omega
  clear hbig1
  by_cases hq0 : n0 ≤ 1048576
  rotate_left
  · have HB0 := Lib.hid (below_var w x0 y0 A0 n0 c0 24)
    have b1 : szN n0 1048576 < 0 := by unfold szN; rw [if_neg hq0]; omega
    have HZ := Lib.hid (szField_is x0 y0 A0 n0 c0 1048576 (Nat.le_refl _) hN0 (w.alloc (.cells #[.int .i64 x0, .int .i64 y0, .slice A0 n0 c0] 24)))
    clear hrow0 hrow1
    generalize szN n0 1048576 = r at *
    go_enter Try.func3, Try.ntmps3
    go_wp2_with fail
    refine HZ.out.mono ?_
    rintro e w' ⟨rfl, hb⟩
    have HB1 := Lib.hid (HB0.out.trans (hb.mono HB0.out.size))
    clear hb HZ HB0
    go_wp2_with fail
    go_ret
    exact ⟨rfl, HB1.out⟩
  have hn0 : n0 ≤ 1048576 := by omega
  obtain ⟨b, fx, fy, fn, ff, hys, hS, hI⟩ := flpBoth x0 y0 n0 p0 z1 hn0 hn1
  have HSP := Lib.hid hS
  have HIM := Lib.hid hI
  have R0_0 : Hid (RowV w w.heap.size A0 n0 (bo p0)) := hrow0
  have R1_0 : Hid (RowV w w.heap.size A1 z1.length (iv (atI z1))) := hrow1
  have C_0 : Hid (Below w.heap.size w w) := Below.refl _ _
  have b1 : ¬ szN n0 1048576 < 0 := by rw [szN_eq hn0]; omega
  have HZ := Lib.hid (szField_is x0 y0 A0 n0 c0 1048576 (Nat.le_refl _) hN0 (w.alloc (.cells #[.int .i64 x0, .int .i64 y0, .slice A0 n0 c0] 24)))
  have hb0 := below_var w x0 y0 A0 n0 c0 24
  have R0_1 := Lib.hid (R0_0.out.butIn (ButIn.of hb0) C_0.out.size (.inr rfl))
  have R1_1 := Lib.hid (R1_0.out.butIn (ButIn.of hb0) C_0.out.size (.inr rfl))
  have C_1 := Lib.hid (C_0.out.trans (hb0.mono C_0.out.size))
  have Va0_1 := Lib.hid (varT_new w x0 y0 A0 n0 c0 24)
  have oa0 : w.heap.size < (w.alloc (.cells #[.int .i64 x0, .int .i64 y0, .slice A0 n0 c0] 24)).heap.size := Va0_1.out.lt
  clear hb0 R0_0 R1_0 C_0
  clear hS hI hrow0 hrow1
  generalize szN n0 1048576 = r at *
  go_enter Try.func3, Try.ntmps3
  go_wp2_with fail
  generalize (w.alloc (.cells #[.int .i64 x0, .int .i64 y0, .slice A0 n0 c0] 24)) = a0 at *
  refine HZ.out.mono ?_
  rintro e wz ⟨rfl, hbz⟩
  clear HZ
  have R0_2 := Lib.hid (R0_1.out.butIn (ButIn.of hbz) C_1.out.size (.inr rfl))
  have R1_2 := Lib.hid (R1_1.out.butIn (ButIn.of hbz) C_1.out.size (.inr rfl))
  have C_2 := Lib.hid (C_1.out.trans (hbz.mono C_1.out.size))
  have Va0_2 := Lib.hid (Va0_1.out.below hbz)
  have oz := hbz.size
  clear hbz R0_1 R1_1 C_1 Va0_1
  have Va0c0 := Va0_2.out.c0
  have Va0c1 := Va0_2.out.c1
  have Va0c2 := Va0_2.out.c2
  have Va0lt := Va0_2.out.lt
  go_wp2_with fail
  clear Va0c0 Va0c1 Va0c2 Va0lt
  refine (toFie x0 y0 A0 n0 c0 p0 wz (R0_2.out.mono C_2.out.size) hn0).mono ?_
  rintro e w1 ⟨Bw1, dw1, rfl, Tw1, hbw1⟩
  have R0_3 := Lib.hid (R0_2.out.butIn (ButIn.of hbw1.out) C_2.out.size (.inr rfl))
  have R1_3 := Lib.hid (R1_2.out.butIn (ButIn.of hbw1.out) C_2.out.size (.inr rfl))
  have C_3 := Lib.hid (C_2.out.trans (hbw1.out.mono C_2.out.size))
  have Va0_3 := Lib.hid (Va0_2.out.below hbw1.out)
  have S0_3 := Tw1
  have ow1 := hbw1.out.size
  clear Tw1 hbw1 R0_2 R1_2 C_2 Va0_2
  go_wp2_with fail
  refine (toIv A1 z1.length c1 (atI z1) w1 (R1_3.out.mono C_3.out.size) hn1).mono ?_
  rintro e w2 ⟨Bw2, dw2, rfl, Tw2, hbw2⟩
  have R0_4 := Lib.hid (R0_3.out.butIn (ButIn.of hbw2.out) C_3.out.size (.inr rfl))
  have R1_4 := Lib.hid (R1_3.out.butIn (ButIn.of hbw2.out) C_3.out.size (.inr rfl))
  have C_4 := Lib.hid (C_3.out.trans (hbw2.out.mono C_3.out.size))
  have Va0_4 := Lib.hid (Va0_3.out.below hbw2.out)
  have S0_4 := Lib.hid (S0_3.out.below hbw2.out)
  have S1_4 := Tw2
  have ow2 := hbw2.out.size
  clear Tw2 hbw2 R0_3 R1_3 C_3 Va0_3 S0_3
  go_wp2_with fail
  refine (HSP.out w2 _ _ _ _ S0_4.out.toRow S1_4.out.toRow).mono ?_
  rintro e w3 ⟨Aw, cw, rfl, Tw3, hbw3⟩
  have R0_5 := Lib.hid (R0_4.out.butIn (ButIn.of hbw3.out) C_4.out.size (.inr rfl))
  have R1_5 := Lib.hid (R1_4.out.butIn (ButIn.of hbw3.out) C_4.out.size (.inr rfl))
  have C_5 := Lib.hid (C_4.out.trans (hbw3.out.mono C_4.out.size))
  have Va0_5 := Lib.hid (Va0_4.out.below hbw3.out)
  have S0_5 := Lib.hid (S0_4.out.below hbw3.out)
  have S1_5 := Lib.hid (S1_4.out.below hbw3.out)
  have RW_5 := Tw3
  have ow3 := hbw3.out.size
  clear Tw3 hbw3 R0_4 R1_4 C_4 Va0_4 S0_4 S1_4
  clear S0_5
  clear S1_5
  have Va0c0 := Va0_5.out.c0
  have Va0c1 := Va0_5.out.c1
  have Va0c2 := Va0_5.out.c2
  have Va0lt := Va0_5.out.lt
  have hbA := below_var w3 fx fy Aw fn cw 27
  have R0_6 := Lib.hid (R0_5.out.butIn (ButIn.of hbA) C_5.out.size (.inr rfl))
  have R1_6 := Lib.hid (R1_5.out.butIn (ButIn.of hbA) C_5.out.size (.inr rfl))
  have C_6 := Lib.hid (C_5.out.trans (hbA.mono C_5.out.size))
  have Va0_6 := Lib.hid (Va0_5.out.below hbA)
  have RW_6 := Lib.hid (RW_5.out.below hbA)
  have Vw_6 := Lib.hid (varT_new w3 fx fy Aw fn cw 27)
  have ow4 : w3.heap.size < (w3.alloc (.cells #[.int .i64 fx, .int .i64 fy, .slice Aw fn cw] 27)).heap.size := Vw_6.out.lt
  clear hbA R0_5 R1_5 C_5 Va0_5 RW_5
  go_wp2_with fail
  clear Va0c0 Va0c1 Va0c2 Va0lt
  generalize w3.alloc (.cells #[.int .i64 fx, .int .i64 fy, .slice Aw fn cw] 27) = w4 at *
  refine (toFie x0 y0 A0 n0 c0 p0 w4 (R0_6.out.mono C_6.out.size) hn0).mono ?_
  rintro e w5 ⟨Bw5, dw5, rfl, Tw5, hbw5⟩
  have R0_7 := Lib.hid (R0_6.out.butIn (ButIn.of hbw5.out) C_6.out.size (.inr rfl))
  have R1_7 := Lib.hid (R1_6.out.butIn (ButIn.of hbw5.out) C_6.out.size (.inr rfl))
  have C_7 := Lib.hid (C_6.out.trans (hbw5.out.mono C_6.out.size))
  have Va0_7 := Lib.hid (Va0_6.out.below hbw5.out)
  have RW_7 := Lib.hid (RW_6.out.below hbw5.out)
  have Vw_7 := Lib.hid (Vw_6.out.below hbw5.out)
  have X0_7 := Tw5
  have ow5 := hbw5.out.size
  clear Tw5 hbw5 R0_6 R1_6 C_6 Va0_6 RW_6 Vw_6
  have hbA := below_var w5 x0 y0 Bw5 n0 dw5 27
  have R0_8 := Lib.hid (R0_7.out.butIn (ButIn.of hbA) C_7.out.size (.inr rfl))
  have R1_8 := Lib.hid (R1_7.out.butIn (ButIn.of hbA) C_7.out.size (.inr rfl))
  have C_8 := Lib.hid (C_7.out.trans (hbA.mono C_7.out.size))
  have Va0_8 := Lib.hid (Va0_7.out.below hbA)
  have RW_8 := Lib.hid (RW_7.out.below hbA)
  have Vw_8 := Lib.hid (Vw_7.out.below hbA)
  have X0_8 := Lib.hid (X0_7.out.below hbA)
  have Vx0_8 := Lib.hid (varT_new w5 x0 y0 Bw5 n0 dw5 27)
  have ow6 : w5.heap.size < (w5.alloc (.cells #[.int .i64 x0, .int .i64 y0, .slice Bw5 n0 dw5] 27)).heap.size := Vx0_8.out.lt
  clear hbA R0_7 R1_7 C_7 Va0_7 RW_7 Vw_7 X0_7
  go_wp2_with fail
  generalize w5.alloc (.cells #[.int .i64 x0, .int .i64 y0, .slice Bw5 n0 dw5] 27) = w6 at *
  refine (toIv A1 z1.length c1 (atI z1) w6 (R1_8.out.mono C_8.out.size) hn1).mono ?_
  rintro e w7 ⟨Bw7, dw7, rfl, Tw7, hbw7⟩
  have R0_9 := Lib.hid (R0_8.out.butIn (ButIn.of hbw7.out) C_8.out.size (.inr rfl))
  have R1_9 := Lib.hid (R1_8.out.butIn (ButIn.of hbw7.out) C_8.out.size (.inr rfl))
  have C_9 := Lib.hid (C_8.out.trans (hbw7.out.mono C_8.out.size))
  have Va0_9 := Lib.hid (Va0_8.out.below hbw7.out)
  have RW_9 := Lib.hid (RW_8.out.below hbw7.out)
  have Vw_9 := Lib.hid (Vw_8.out.below hbw7.out)
  have X0_9 := Lib.hid (X0_8.out.below hbw7.out)
  have Vx0_9 := Lib.hid (Vx0_8.out.below hbw7.out)
  have X1_9 := Tw7
  have ow7 := hbw7.out.size
  clear Tw7 hbw7 R0_8 R1_8 C_8 Va0_8 RW_8 Vw_8 X0_8 Vx0_8
  have Vx0c0 := Vx0_9.out.c0
  have Vx0c1 := Vx0_9.out.c1
  have Vx0c2 := Vx0_9.out.c2
  have Vx0lt := Vx0_9.out.lt
  go_wp2_with fail
  clear Vx0c0 Vx0c1 Vx0c2 Vx0lt
  refine (HIM.out w7 _ _ _ _ X0_9.out.toRow X1_9.out.toRow).mono ?_
  rintro e w8 ⟨Ag, cg, rfl, Tw8, hbw8⟩
  have R0_10 := Lib.hid (R0_9.out.butIn (ButIn.of hbw8.out) C_9.out.size (.inr rfl))
  have R1_10 := Lib.hid (R1_9.out.butIn (ButIn.of hbw8.out) C_9.out.size (.inr rfl))
  have C_10 := Lib.hid (C_9.out.trans (hbw8.out.mono C_9.out.size))
  have Va0_10 := Lib.hid (Va0_9.out.below hbw8.out)
  have RW_10 := Lib.hid (RW_9.out.below hbw8.out)
  have Vw_10 := Lib.hid (Vw_9.out.below hbw8.out)
  have X0_10 := Lib.hid (X0_9.out.below hbw8.out)
  have Vx0_10 := Lib.hid (Vx0_9.out.below hbw8.out)
  have X1_10 := Lib.hid (X1_9.out.below hbw8.out)
  have RG_10 := Tw8
  have ow8 := hbw8.out.size
  clear Tw8 hbw8 R0_9 R1_9 C_9 Va0_9 RW_9 Vw_9 X0_9 Vx0_9 X1_9
  have Vwc0 := Vw_10.out.c0
  have Vwc1 := Vw_10.out.c1
  have Vwc2 := Vw_10.out.c2
  have Vwlt := Vw_10.out.lt
  have hbA := below_var w8 fx fy Ag fn cg 27
  have R0_11 := Lib.hid (R0_10.out.butIn (ButIn.of hbA) C_10.out.size (.inr rfl))
  have R1_11 := Lib.hid (R1_10.out.butIn (ButIn.of hbA) C_10.out.size (.inr rfl))
  have C_11 := Lib.hid (C_10.out.trans (hbA.mono C_10.out.size))
  have Va0_11 := Lib.hid (Va0_10.out.below hbA)
  have RW_11 := Lib.hid (RW_10.out.below hbA)
  have Vw_11 := Lib.hid (Vw_10.out.below hbA)
  have X0_11 := Lib.hid (X0_10.out.below hbA)
  have Vx0_11 := Lib.hid (Vx0_10.out.below hbA)
  have X1_11 := Lib.hid (X1_10.out.below hbA)
  have RG_11 := Lib.hid (RG_10.out.below hbA)
  have Vg_11 := Lib.hid (varT_new w8 fx fy Ag fn cg 27)
  have ow9 : w8.heap.size < (w8.alloc (.cells #[.int .i64 fx, .int .i64 fy, .slice Ag fn cg] 27)).heap.size := Vg_11.out.lt
  clear hbA R0_10 R1_10 C_10 Va0_10 RW_10 Vw_10 X0_10 Vx0_10 X1_10 RG_10
  go_wp2_with fail
  clear Vwc0 Vwc1 Vwc2 Vwlt
  generalize w8.alloc (.cells #[.int .i64 fx, .int .i64 fy, .slice Ag fn cg] 27) = w9 at *
  refine (eqFie fx fy _ _ fn _ _ _ _ _ _ ff w9 RG_11.out RW_11.out hys).mono ?_
  rintro e w10 ⟨rfl, hbe⟩
  have R0_12 := Lib.hid (R0_11.out.butIn (ButIn.of hbe.out) C_11.out.size (.inr rfl))
  have R1_12 := Lib.hid (R1_11.out.butIn (ButIn.of hbe.out) C_11.out.size (.inr rfl))
  have C_12 := Lib.hid (C_11.out.trans (hbe.out.mono C_11.out.size))
  have Va0_12 := Lib.hid (Va0_11.out.below hbe.out)
  have RW_12 := Lib.hid (RW_11.out.below hbe.out)
  have Vw_12 := Lib.hid (Vw_11.out.below hbe.out)
  have X0_12 := Lib.hid (X0_11.out.below hbe.out)
  have Vx0_12 := Lib.hid (Vx0_11.out.below hbe.out)
  have X1_12 := Lib.hid (X1_11.out.below hbe.out)
  have RG_12 := Lib.hid (RG_11.out.below hbe.out)
  have Vg_12 := Lib.hid (Vg_11.out.below hbe.out)
  have ow10 := hbe.out.size
  clear hbe R0_11 R1_11 C_11 Va0_11 RW_11 Vw_11 X0_11 Vx0_11 X1_11 RG_11 Vg_11
  -- the copy is as it was
  have Vx0c0 := Vx0_12.out.c0
  have Vx0c1 := Vx0_12.out.c1
  have Vx0c2 := Vx0_12.out.c2
  have Vx0lt := Vx0_12.out.lt
  have Va0c0 := Va0_12.out.c0
  have Va0c1 := Va0_12.out.c1
  have Va0c2 := Va0_12.out.c2
  have Va0lt := Va0_12.out.lt
  go_wp2_with fail
  have hR6 : Hid (RowV w10 w10.heap.size A0 n0 (bo p0)) := R0_12.out.mono C_12.out.size
  have hX6 := X0_12
  have x6 : w.heap.size < w10.heap.size := Va0_12.out.lt
  have y6 : w5.heap.size < w10.heap.size := Vx0_12.out.lt
  have K0 : Hid (Below w10.heap.size w10 w10.drew) := (Below.refl _ _).drew
  go_region_held3 (fun w' => w'.cell? ⟨w5.heap.size, 0, none⟩ = some (.int .i64 x0) ∧ w'.cell? ⟨w5.heap.size, 1, none⟩ = some (.int .i64 y0) ∧ w'.cell? ⟨w5.heap.size, 2, none⟩ = some (.slice Bw5 n0 dw5) ∧ w'.cell? ⟨w.heap.size, 0, none⟩ = some (.int .i64 x0) ∧ w'.cell? ⟨w.heap.size, 1, none⟩ = some (.int .i64 y0) ∧ w'.cell? ⟨w.heap.size, 2, none⟩ = some (.slice A0 n0 c0) ∧ Hid (Below w10.heap.size w10 w')) (first | (exact ⟨by assumption, by assumption, by assumption, by assumption, by assumption, by assumption, by assumption⟩) | go_keep)
    (first
      | ((go_at_call 16; refine (toFie x0 y0 A0 n0 c0 p0 _ (hR6.out.carry ((‹Hid (Below w10.heap.size w10 _)›).out)) hn0).mono ?_; rintro e wq7 ⟨A7, c7, rfl, O7, hb7⟩; have K7 := Lib.hid ((‹Hid (Below w10.heap.size w10 _)›).out.trans (hb7.out.mono (‹Hid (Below w10.heap.size w10 _)›).out.size)); obtain ⟨e0, e1, e2⟩ := keepT (v := w.heap.size) hb7.out (by assumption) (by assumption) (by assumption) (by assumption) x6; obtain ⟨f0, f1, f2⟩ := keepT (v := w5.heap.size) hb7.out (by assumption) (by assumption) (by assumption) (by assumption) y6))
      | ((go_at_call 19; refine (eqFie x0 y0 _ _ n0 _ _ _ _ _ _ p0 _ (hX6.out.below ((‹Hid (Below w10.heap.size w10 _)›).out)) (‹Hid (RowW _ _ _ A7 _ _)›).out hn0).mono ?_; rintro e w8x0 ⟨rfl, hb8⟩; have K8 := Lib.hid ((‹Hid (Below w10.heap.size w10 _)›).out.trans (hb8.out.mono (‹Hid (Below w10.heap.size w10 _)›).out.size)); obtain ⟨e0, e1, e2⟩ := keepT (v := w.heap.size) hb8.out (by assumption) (by assumption) (by assumption) (by assumption) x6; obtain ⟨f0, f1, f2⟩ := keepT (v := w5.heap.size) hb8.out (by assumption) (by assumption) (by assumption) (by assumption) y6)))
  have hb9 := Lib.hid ((‹Hid (Below w10.heap.size w10 w8x0)›).out)
  clear Vx0c0 Vx0c1 Vx0c2 Vx0lt Va0c0 Va0c1 Va0c2 Va0lt hR6 hX6 x6 y6 K0
  have R0_13 := Lib.hid (R0_12.out.butIn (ButIn.of hb9.out) C_12.out.size (.inr rfl))
  have R1_13 := Lib.hid (R1_12.out.butIn (ButIn.of hb9.out) C_12.out.size (.inr rfl))
  have C_13 := Lib.hid (C_12.out.trans (hb9.out.mono C_12.out.size))
  have Va0_13 := Lib.hid (Va0_12.out.below hb9.out)
  have RW_13 := Lib.hid (RW_12.out.below hb9.out)
  have Vw_13 := Lib.hid (Vw_12.out.below hb9.out)
  have X0_13 := Lib.hid (X0_12.out.below hb9.out)
  have Vx0_13 := Lib.hid (Vx0_12.out.below hb9.out)
  have X1_13 := Lib.hid (X1_12.out.below hb9.out)
  have RG_13 := Lib.hid (RG_12.out.below hb9.out)
  have Vg_13 := Lib.hid (Vg_12.out.below hb9.out)
  have ow11 := hb9.out.size
  clear hb9 R0_12 R1_12 C_12 Va0_12 RW_12 Vw_12 X0_12 Vx0_12 X1_12 RG_12 Vg_12
  -- the copy is as it was
  go_wp2_with fail
  refine (toIv A1 z1.length c1 (atI z1) w8x0 (R1_13.out.mono C_13.out.size) hn1).mono ?_
  rintro e w12 ⟨Bw12, dw12, rfl, Tw12, hbw12⟩
  have R0_14 := Lib.hid (R0_13.out.butIn (ButIn.of hbw12.out) C_13.out.size (.inr rfl))
  have R1_14 := Lib.hid (R1_13.out.butIn (ButIn.of hbw12.out) C_13.out.size (.inr rfl))
  have C_14 := Lib.hid (C_13.out.trans (hbw12.out.mono C_13.out.size))
  have Va0_14 := Lib.hid (Va0_13.out.below hbw12.out)
  have RW_14 := Lib.hid (RW_13.out.below hbw12.out)
  have Vw_14 := Lib.hid (Vw_13.out.below hbw12.out)
  have X0_14 := Lib.hid (X0_13.out.below hbw12.out)
  have Vx0_14 := Lib.hid (Vx0_13.out.below hbw12.out)
  have X1_14 := Lib.hid (X1_13.out.below hbw12.out)
  have RG_14 := Lib.hid (RG_13.out.below hbw12.out)
  have Vg_14 := Lib.hid (Vg_13.out.below hbw12.out)
  have Y1_14 := Tw12
  have ow12 := hbw12.out.size
  clear Tw12 hbw12 R0_13 R1_13 C_13 Va0_13 RW_13 Vw_13 X0_13 Vx0_13 X1_13 RG_13 Vg_13
  go_wp2_with fail
  refine (eqIv _ _ z1.length _ _ _ _ _ _ (atI z1) w12 X1_14.out Y1_14.out hn1).mono ?_
  rintro e w13 ⟨rfl, hbe⟩
  have R0_15 := Lib.hid (R0_14.out.butIn (ButIn.of hbe.out) C_14.out.size (.inr rfl))
  have R1_15 := Lib.hid (R1_14.out.butIn (ButIn.of hbe.out) C_14.out.size (.inr rfl))
  have C_15 := Lib.hid (C_14.out.trans (hbe.out.mono C_14.out.size))
  have Va0_15 := Lib.hid (Va0_14.out.below hbe.out)
  have RW_15 := Lib.hid (RW_14.out.below hbe.out)
  have Vw_15 := Lib.hid (Vw_14.out.below hbe.out)
  have X0_15 := Lib.hid (X0_14.out.below hbe.out)
  have Vx0_15 := Lib.hid (Vx0_14.out.below hbe.out)
  have X1_15 := Lib.hid (X1_14.out.below hbe.out)
  have RG_15 := Lib.hid (RG_14.out.below hbe.out)
  have Vg_15 := Lib.hid (Vg_14.out.below hbe.out)
  have Y1_15 := Lib.hid (Y1_14.out.below hbe.out)
  have ow13 := hbe.out.size
  clear hbe R0_14 R1_14 C_14 Va0_14 RW_14 Vw_14 X0_14 Vx0_14 X1_14 RG_14 Vg_14 Y1_14
  clear Y1_15
  have Vx0c0 := Vx0_15.out.c0
  have Vx0c1 := Vx0_15.out.c1
  have Vx0c2 := Vx0_15.out.c2
  have Vx0lt := Vx0_15.out.lt
  go_wp2_with fail
  clear Vx0c0 Vx0c1 Vx0c2 Vx0lt
  refine (markFie _ _ _ _ _ 1 w4.heap.size w5.heap.size p0 w13 X0_15.out hn0 (by omega)).mono ?_
  rintro e w14 ⟨rfl, _, hbm⟩
  clear X0_15
  have R0_16 := Lib.hid (R0_15.out.butIn hbm.out C_15.out.size (.inl (by omega)))
  have R1_16 := Lib.hid (R1_15.out.butIn hbm.out C_15.out.size (.inl (by omega)))
  have C_16 := Lib.hid (C_15.out.trans (hbm.out.toBelow (by omega) C_15.out.size))
  have Va0_16 := Lib.hid (Va0_15.out.but hbm.out (by omega))
  have RW_16 := Lib.hid (RW_15.out.but hbm.out (by omega))
  have Vw_16 := Lib.hid (Vw_15.out.but hbm.out (by omega))
  have Vx0_16 := Lib.hid (Vx0_15.out.but hbm.out (by omega))
  have X1_16 := Lib.hid (X1_15.out.but hbm.out (by omega))
  have RG_16 := Lib.hid (RG_15.out.but hbm.out (by omega))
  have Vg_16 := Lib.hid (Vg_15.out.but hbm.out (by omega))
  have ow14 := hbm.out.size
  clear hbm R0_15 R1_15 C_15 Va0_15 RW_15 Vw_15 Vx0_15 X1_15 RG_15 Vg_15
  go_wp2_with fail
  refine (markIv _ _ _ (1 + n0) w6.heap.size w7.heap.size (atI z1) w14 X1_16.out hn1 (by omega)).mono ?_
  rintro e w15 ⟨rfl, _, hbm⟩
  clear X1_16
  have R0_17 := Lib.hid (R0_16.out.butIn hbm.out C_16.out.size (.inl (by omega)))
  have R1_17 := Lib.hid (R1_16.out.butIn hbm.out C_16.out.size (.inl (by omega)))
  have C_17 := Lib.hid (C_16.out.trans (hbm.out.toBelow (by omega) C_16.out.size))
  have Va0_17 := Lib.hid (Va0_16.out.but hbm.out (by omega))
  have RW_17 := Lib.hid (RW_16.out.but hbm.out (by omega))
  have Vw_17 := Lib.hid (Vw_16.out.but hbm.out (by omega))
  have Vx0_17 := Lib.hid (Vx0_16.out.but hbm.out (by omega))
  have RG_17 := Lib.hid (RG_16.out.but hbm.out (by omega))
  have Vg_17 := Lib.hid (Vg_16.out.but hbm.out (by omega))
  have ow15 := hbm.out.size
  clear hbm R0_16 R1_16 C_16 Va0_16 RW_16 Vw_16 Vx0_16 RG_16 Vg_16
  have Vgc0 := Vg_17.out.c0
  have Vgc1 := Vg_17.out.c1
  have Vgc2 := Vg_17.out.c2
  have Vglt := Vg_17.out.lt
  have Vwc0 := Vw_17.out.c0
  have Vwc1 := Vw_17.out.c1
  have Vwc2 := Vw_17.out.c2
  have Vwlt := Vw_17.out.lt
  go_wp2_with fail
  clear Vgc0 Vgc1 Vgc2 Vglt Vwc0 Vwc1 Vwc2 Vwlt
  refine (eqFie fx fy _ _ fn _ _ _ _ _ _ ff w15 RG_17.out RW_17.out hys).mono ?_
  rintro e w16 ⟨rfl, hbe⟩
  have R0_18 := Lib.hid (R0_17.out.butIn (ButIn.of hbe.out) C_17.out.size (.inr rfl))
  have R1_18 := Lib.hid (R1_17.out.butIn (ButIn.of hbe.out) C_17.out.size (.inr rfl))
  have C_18 := Lib.hid (C_17.out.trans (hbe.out.mono C_17.out.size))
  have Va0_18 := Lib.hid (Va0_17.out.below hbe.out)
  have RW_18 := Lib.hid (RW_17.out.below hbe.out)
  have Vw_18 := Lib.hid (Vw_17.out.below hbe.out)
  have Vx0_18 := Lib.hid (Vx0_17.out.below hbe.out)
  have RG_18 := Lib.hid (RG_17.out.below hbe.out)
  have Vg_18 := Lib.hid (Vg_17.out.below hbe.out)
  have ow16 := hbe.out.size
  clear hbe R0_17 R1_17 C_17 Va0_17 RW_17 Vw_17 Vx0_17 RG_17 Vg_17
  -- what came back is marked
  have Vgc0 := Vg_18.out.c0
  have Vgc1 := Vg_18.out.c1
  have Vgc2 := Vg_18.out.c2
  have Vglt := Vg_18.out.lt
  go_wp2_with fail
  clear Vgc0 Vgc1 Vgc2 Vglt
  refine (markFie _ _ _ _ _ 1 w7.heap.size w8.heap.size ff w16 RG_18.out hys (by omega)).mono ?_
  rintro e w17 ⟨rfl, RGm, hbm⟩
  clear RG_18
  have R0_19 := Lib.hid (R0_18.out.butIn hbm.out C_18.out.size (.inl (by omega)))
  have R1_19 := Lib.hid (R1_18.out.butIn hbm.out C_18.out.size (.inl (by omega)))
  have C_19 := Lib.hid (C_18.out.trans (hbm.out.toBelow (by omega) C_18.out.size))
  have Va0_19 := Lib.hid (Va0_18.out.but hbm.out (by omega))
  have RW_19 := Lib.hid (RW_18.out.but hbm.out (by omega))
  have Vw_19 := Lib.hid (Vw_18.out.but hbm.out (by omega))
  have Vx0_19 := Lib.hid (Vx0_18.out.but hbm.out (by omega))
  have Vg_19 := Lib.hid (Vg_18.out.but hbm.out (by omega))
  have ow17 := hbm.out.size
  have RM_19 := RGm
  clear hbm RGm R0_18 R1_18 C_18 Va0_18 RW_18 Vw_18 Vx0_18 Vg_18
  have Vgc0 := Vg_19.out.c0
  have Vgc1 := Vg_19.out.c1
  have Vgc2 := Vg_19.out.c2
  have Vglt := Vg_19.out.lt
  go_wp2_with fail
  clear Vgc0 Vgc1 Vgc2 Vglt
  refine (heldFie _ _ _ _ _ 1 _ _ w17 RM_19.out hys (by omega)).mono ?_
  rintro e w18 ⟨rfl, hbh⟩
  have R0_20 := Lib.hid (R0_19.out.butIn (ButIn.of hbh.out) C_19.out.size (.inr rfl))
  have R1_20 := Lib.hid (R1_19.out.butIn (ButIn.of hbh.out) C_19.out.size (.inr rfl))
  have C_20 := Lib.hid (C_19.out.trans (hbh.out.mono C_19.out.size))
  have Va0_20 := Lib.hid (Va0_19.out.below hbh.out)
  have RW_20 := Lib.hid (RW_19.out.below hbh.out)
  have Vw_20 := Lib.hid (Vw_19.out.below hbh.out)
  have Vx0_20 := Lib.hid (Vx0_19.out.below hbh.out)
  have Vg_20 := Lib.hid (Vg_19.out.below hbh.out)
  have RM_20 := Lib.hid (RM_19.out.below hbh.out)
  have ow18 := hbh.out.size
  clear hbh R0_19 R1_19 C_19 Va0_19 RW_19 Vw_19 Vx0_19 Vg_19 RM_19
  -- once more
  have Va0c0 := Va0_20.out.c0
  have Va0c1 := Va0_20.out.c1
  have Va0c2 := Va0_20.out.c2
  have Va0lt := Va0_20.out.lt
  go_wp2_with fail
  clear Va0c0 Va0c1 Va0c2 Va0lt
  refine (toFie x0 y0 A0 n0 c0 p0 w18 (R0_20.out.mono C_20.out.size) hn0).mono ?_
  rintro e w19 ⟨Bw19, dw19, rfl, Tw19, hbw19⟩
  have R0_21 := Lib.hid (R0_20.out.butIn (ButIn.of hbw19.out) C_20.out.size (.inr rfl))
  have R1_21 := Lib.hid (R1_20.out.butIn (ButIn.of hbw19.out) C_20.out.size (.inr rfl))
  have C_21 := Lib.hid (C_20.out.trans (hbw19.out.mono C_20.out.size))
  have Va0_21 := Lib.hid (Va0_20.out.below hbw19.out)
  have RW_21 := Lib.hid (RW_20.out.below hbw19.out)
  have Vw_21 := Lib.hid (Vw_20.out.below hbw19.out)
  have Vx0_21 := Lib.hid (Vx0_20.out.below hbw19.out)
  have Vg_21 := Lib.hid (Vg_20.out.below hbw19.out)
  have RM_21 := Lib.hid (RM_20.out.below hbw19.out)
  have Z0_21 := Tw19
  have ow19 := hbw19.out.size
  clear Tw19 hbw19 R0_20 R1_20 C_20 Va0_20 RW_20 Vw_20 Vx0_20 Vg_20 RM_20
  go_wp2_with fail
  refine (toIv A1 z1.length c1 (atI z1) w19 (R1_21.out.mono C_21.out.size) hn1).mono ?_
  rintro e w20 ⟨Bw20, dw20, rfl, Tw20, hbw20⟩
  have R0_22 := Lib.hid (R0_21.out.butIn (ButIn.of hbw20.out) C_21.out.size (.inr rfl))
  have R1_22 := Lib.hid (R1_21.out.butIn (ButIn.of hbw20.out) C_21.out.size (.inr rfl))
  have C_22 := Lib.hid (C_21.out.trans (hbw20.out.mono C_21.out.size))
  have Va0_22 := Lib.hid (Va0_21.out.below hbw20.out)
  have RW_22 := Lib.hid (RW_21.out.below hbw20.out)
  have Vw_22 := Lib.hid (Vw_21.out.below hbw20.out)
  have Vx0_22 := Lib.hid (Vx0_21.out.below hbw20.out)
  have Vg_22 := Lib.hid (Vg_21.out.below hbw20.out)
  have RM_22 := Lib.hid (RM_21.out.below hbw20.out)
  have Z0_22 := Lib.hid (Z0_21.out.below hbw20.out)
  have Z1_22 := Tw20
  have ow20 := hbw20.out.size
  clear Tw20 hbw20 R0_21 R1_21 C_21 Va0_21 RW_21 Vw_21 Vx0_21 Vg_21 RM_21 Z0_21
  go_wp2_with fail
  refine (HIM.out w20 _ _ _ _ Z0_22.out.toRow Z1_22.out.toRow).mono ?_
  rintro e w21 ⟨Ah, ch, rfl, Tw21, hbw21⟩
  have R0_23 := Lib.hid (R0_22.out.butIn (ButIn.of hbw21.out) C_22.out.size (.inr rfl))
  have R1_23 := Lib.hid (R1_22.out.butIn (ButIn.of hbw21.out) C_22.out.size (.inr rfl))
  have C_23 := Lib.hid (C_22.out.trans (hbw21.out.mono C_22.out.size))
  have Va0_23 := Lib.hid (Va0_22.out.below hbw21.out)
  have RW_23 := Lib.hid (RW_22.out.below hbw21.out)
  have Vw_23 := Lib.hid (Vw_22.out.below hbw21.out)
  have Vx0_23 := Lib.hid (Vx0_22.out.below hbw21.out)
  have Vg_23 := Lib.hid (Vg_22.out.below hbw21.out)
  have RM_23 := Lib.hid (RM_22.out.below hbw21.out)
  have Z0_23 := Lib.hid (Z0_22.out.below hbw21.out)
  have Z1_23 := Lib.hid (Z1_22.out.below hbw21.out)
  have RH_23 := Tw21
  have ow21 := hbw21.out.size
  clear Tw21 hbw21 R0_22 R1_22 C_22 Va0_22 RW_22 Vw_22 Vx0_22 Vg_22 RM_22 Z0_22 Z1_22
  have Vwc0 := Vw_23.out.c0
  have Vwc1 := Vw_23.out.c1
  have Vwc2 := Vw_23.out.c2
  have Vwlt := Vw_23.out.lt
  have hbA := below_var w21 fx fy Ah fn ch 27
  have R0_24 := Lib.hid (R0_23.out.butIn (ButIn.of hbA) C_23.out.size (.inr rfl))
  have R1_24 := Lib.hid (R1_23.out.butIn (ButIn.of hbA) C_23.out.size (.inr rfl))
  have C_24 := Lib.hid (C_23.out.trans (hbA.mono C_23.out.size))
  have Va0_24 := Lib.hid (Va0_23.out.below hbA)
  have RW_24 := Lib.hid (RW_23.out.below hbA)
  have Vw_24 := Lib.hid (Vw_23.out.below hbA)
  have Vx0_24 := Lib.hid (Vx0_23.out.below hbA)
  have Vg_24 := Lib.hid (Vg_23.out.below hbA)
  have RM_24 := Lib.hid (RM_23.out.below hbA)
  have Z0_24 := Lib.hid (Z0_23.out.below hbA)
  have Z1_24 := Lib.hid (Z1_23.out.below hbA)
  have RH_24 := Lib.hid (RH_23.out.below hbA)
  have Vh_24 := Lib.hid (varT_new w21 fx fy Ah fn ch 27)
  have ow22 : w21.heap.size < (w21.alloc (.cells #[.int .i64 fx, .int .i64 fy, .slice Ah fn ch] 27)).heap.size := Vh_24.out.lt
  clear hbA R0_23 R1_23 C_23 Va0_23 RW_23 Vw_23 Vx0_23 Vg_23 RM_23 Z0_23 Z1_23 RH_23
  go_wp2_with fail
  clear Vwc0 Vwc1 Vwc2 Vwlt
  generalize w21.alloc (.cells #[.int .i64 fx, .int .i64 fy, .slice Ah fn ch] 27) = w22 at *
  refine (eqFie fx fy _ _ fn _ _ _ _ _ _ ff w22 RH_24.out RW_24.out hys).mono ?_
  rintro e w23 ⟨rfl, hbe⟩
  have R0_25 := Lib.hid (R0_24.out.butIn (ButIn.of hbe.out) C_24.out.size (.inr rfl))
  have R1_25 := Lib.hid (R1_24.out.butIn (ButIn.of hbe.out) C_24.out.size (.inr rfl))
  have C_25 := Lib.hid (C_24.out.trans (hbe.out.mono C_24.out.size))
  have Va0_25 := Lib.hid (Va0_24.out.below hbe.out)
  have RW_25 := Lib.hid (RW_24.out.below hbe.out)
  have Vw_25 := Lib.hid (Vw_24.out.below hbe.out)
  have Vx0_25 := Lib.hid (Vx0_24.out.below hbe.out)
  have Vg_25 := Lib.hid (Vg_24.out.below hbe.out)
  have RM_25 := Lib.hid (RM_24.out.below hbe.out)
  have Z0_25 := Lib.hid (Z0_24.out.below hbe.out)
  have Z1_25 := Lib.hid (Z1_24.out.below hbe.out)
  have RH_25 := Lib.hid (RH_24.out.below hbe.out)
  have Vh_25 := Lib.hid (Vh_24.out.below hbe.out)
  have ow23 := hbe.out.size
  clear hbe R0_24 R1_24 C_24 Va0_24 RW_24 Vw_24 Vx0_24 Vg_24 RM_24 Z0_24 Z1_24 RH_24 Vh_24
  have Vgc0 := Vg_25.out.c0
  have Vgc1 := Vg_25.out.c1
  have Vgc2 := Vg_25.out.c2
  have Vglt := Vg_25.out.lt
  go_wp2_with fail
  clear Vgc0 Vgc1 Vgc2 Vglt
  refine (heldFie _ _ _ _ _ 1 _ _ w23 RM_25.out hys (by omega)).mono ?_
  rintro e w24 ⟨rfl, hbh⟩
  have R0_26 := Lib.hid (R0_25.out.butIn (ButIn.of hbh.out) C_25.out.size (.inr rfl))
  have R1_26 := Lib.hid (R1_25.out.butIn (ButIn.of hbh.out) C_25.out.size (.inr rfl))
  have C_26 := Lib.hid (C_25.out.trans (hbh.out.mono C_25.out.size))
  have Va0_26 := Lib.hid (Va0_25.out.below hbh.out)
  have RW_26 := Lib.hid (RW_25.out.below hbh.out)
  have Vw_26 := Lib.hid (Vw_25.out.below hbh.out)
  have Vx0_26 := Lib.hid (Vx0_25.out.below hbh.out)
  have Vg_26 := Lib.hid (Vg_25.out.below hbh.out)
  have RM_26 := Lib.hid (RM_25.out.below hbh.out)
  have Z0_26 := Lib.hid (Z0_25.out.below hbh.out)
  have Z1_26 := Lib.hid (Z1_25.out.below hbh.out)
  have RH_26 := Lib.hid (RH_25.out.below hbh.out)
  have Vh_26 := Lib.hid (Vh_25.out.below hbh.out)
  have ow24 := hbh.out.size
  clear hbh R0_25 R1_25 C_25 Va0_25 RW_25 Vw_25 Vx0_25 Vg_25 RM_25 Z0_25 Z1_25 RH_25 Vh_25
  go_wp2_with fail
  go_ret
  exact ⟨rfl, C_26.out⟩

end Go.Proofs.Ytjojhklbikgfoaa
