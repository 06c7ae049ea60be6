/-
  What is proved here: the law FnExactGrowEdge, as a walk. Conditions: the fields and lists are ones that a machine can hold.
-/
import Derived.Test.YthhimielelpcoaaEdb
import Derived.Test.YthhimielelpcoaaFio
import Derived.Deep.RegionHeld3
namespace Go.Proofs.Ythhimielelpcoaa
open Go.RowKit
set_option linter.unusedVariables false

set_option maxHeartbeats 16000000 in
set_option maxRecDepth 1000000 in
theorem lawGro (x0 y0 : Int) (A0 : Option Addr) (n0 c0 : Nat) (p0 : Nat → Bool) (cnt : Int) (sd : Int) {w : World} (hl0 : FieldIn w x0 y0 A0 n0 p0)  :
    Calls Try.prog 3 #[.agg #[.int .i64 x0, .int .i64 y0, .slice A0 n0 c0], .int .i64 cnt, .int .i64 sd] w fun e w' => e = .returned (.bool true) ∧ Below w.heap.size w w' := by
  obtain ⟨hrow0, hN0, hwx0, hwy0⟩ := hl0
  by_cases hq0 : n0 ≤ 1048576
  rotate_left
  · have HB0 := Lib.hid (below_var w x0 y0 A0 n0 c0 24)
    have b1 : szN n0 1048576 < 0 := by unfold szN; rw [if_neg hq0]; omega
    have HZ := Lib.hid (szField_is x0 y0 A0 n0 c0 1048576 (Nat.le_refl _) hN0 (w.alloc (.cells #[.int .i64 x0, .int .i64 y0, .slice A0 n0 c0] 24)))
    clear hrow0
    generalize szN n0 1048576 = r at *
    go_enter Try.func3, Try.ntmps3
    go_wp2_with fail
    refine HZ.out.mono ?_
    rintro e w' ⟨rfl, hb⟩
    have HB1 := Lib.hid (HB0.out.trans (hb.mono HB0.out.size))
    clear hb HZ HB0
    go_wp2_with fail
    go_ret
    exact ⟨rfl, HB1.out⟩
  have hn0 : n0 ≤ 1048576 := by omega
  obtain ⟨sq, b, fx, fy, fn, ff, hys, hS, hI⟩ := groBoth x0 y0 n0 p0 cnt sd hn0
  have HSP := Lib.hid hS
  have HIM := Lib.hid hI
  have R0_0 : Hid (RowV w w.heap.size A0 n0 (bo p0)) := hrow0
  have C_0 : Hid (Below w.heap.size w w) := Below.refl _ _
  have b1 : ¬ szN n0 1048576 < 0 := by rw [szN_eq hn0]; omega
  have HZ := Lib.hid (szField_is x0 y0 A0 n0 c0 1048576 (Nat.le_refl _) hN0 (w.alloc (.cells #[.int .i64 x0, .int .i64 y0, .slice A0 n0 c0] 24)))
  have hb0 := below_var w x0 y0 A0 n0 c0 24
  have R0_1 := Lib.hid (R0_0.out.butIn (ButIn.of hb0) C_0.out.size (.inr rfl))
  have C_1 := Lib.hid (C_0.out.trans (hb0.mono C_0.out.size))
  have Va0_1 := Lib.hid (varT_new w x0 y0 A0 n0 c0 24)
  have oa0 : w.heap.size < (w.alloc (.cells #[.int .i64 x0, .int .i64 y0, .slice A0 n0 c0] 24)).heap.size := Va0_1.out.lt
  clear hb0 R0_0 C_0
  clear hS hI hrow0
  generalize szN n0 1048576 = r at *
  go_enter Try.func3, Try.ntmps3
  go_wp2_with fail
  generalize (w.alloc (.cells #[.int .i64 x0, .int .i64 y0, .slice A0 n0 c0] 24)) = a0 at *
  refine HZ.out.mono ?_
  rintro e wz ⟨rfl, hbz⟩
  clear HZ
  have R0_2 := Lib.hid (R0_1.out.butIn (ButIn.of hbz) C_1.out.size (.inr rfl))
  have C_2 := Lib.hid (C_1.out.trans (hbz.mono C_1.out.size))
  have Va0_2 := Lib.hid (Va0_1.out.below hbz)
  have oz := hbz.size
  clear hbz R0_1 C_1 Va0_1
  have Va0c0 := Va0_2.out.c0
  have Va0c1 := Va0_2.out.c1
  have Va0c2 := Va0_2.out.c2
  have Va0lt := Va0_2.out.lt
  go_wp2_with fail
  clear Va0c0 Va0c1 Va0c2 Va0lt
  refine (toFie x0 y0 A0 n0 c0 p0 wz (R0_2.out.mono C_2.out.size) hn0).mono ?_
  rintro e w1 ⟨Bw1, dw1, rfl, Tw1, hbw1⟩
  have R0_3 := Lib.hid (R0_2.out.butIn (ButIn.of hbw1.out) C_2.out.size (.inr rfl))
  have C_3 := Lib.hid (C_2.out.trans (hbw1.out.mono C_2.out.size))
  have Va0_3 := Lib.hid (Va0_2.out.below hbw1.out)
  have S0_3 := Tw1
  have ow1 := hbw1.out.size
  clear Tw1 hbw1 R0_2 C_2 Va0_2
  go_wp2_with fail
  refine (HSP.out w1 _ _ S0_3.out.toRow).mono ?_
  rintro e w2 ⟨Aw, cw, rfl, Tw2, hbw2⟩
  have R0_4 := Lib.hid (R0_3.out.butIn (ButIn.of hbw2.out) C_3.out.size (.inr rfl))
  have C_4 := Lib.hid (C_3.out.trans (hbw2.out.mono C_3.out.size))
  have Va0_4 := Lib.hid (Va0_3.out.below hbw2.out)
  have S0_4 := Lib.hid (S0_3.out.below hbw2.out)
  have RW_4 := Tw2
  have ow2 := hbw2.out.size
  clear Tw2 hbw2 R0_3 C_3 Va0_3 S0_3
  clear S0_4
  have Va0c0 := Va0_4.out.c0
  have Va0c1 := Va0_4.out.c1
  have Va0c2 := Va0_4.out.c2
  have Va0lt := Va0_4.out.lt
  have hbA := below_var w2 fx fy Aw fn cw 26
  have R0_5 := Lib.hid (R0_4.out.butIn (ButIn.of hbA) C_4.out.size (.inr rfl))
  have C_5 := Lib.hid (C_4.out.trans (hbA.mono C_4.out.size))
  have Va0_5 := Lib.hid (Va0_4.out.below hbA)
  have RW_5 := Lib.hid (RW_4.out.below hbA)
  have Vw_5 := Lib.hid (varT_new w2 fx fy Aw fn cw 26)
  have ow3 : w2.heap.size < (w2.alloc (.cells #[.int .i64 fx, .int .i64 fy, .slice Aw fn cw] 26)).heap.size := Vw_5.out.lt
  clear hbA R0_4 C_4 Va0_4 RW_4
  go_wp2_with fail
  clear Va0c0 Va0c1 Va0c2 Va0lt
  generalize w2.alloc (.cells #[.int .i64 fx, .int .i64 fy, .slice Aw fn cw] 26) = w3 at *
  refine (toFie x0 y0 A0 n0 c0 p0 w3 (R0_5.out.mono C_5.out.size) hn0).mono ?_
  rintro e w4 ⟨Bw4, dw4, rfl, Tw4, hbw4⟩
  have R0_6 := Lib.hid (R0_5.out.butIn (ButIn.of hbw4.out) C_5.out.size (.inr rfl))
  have C_6 := Lib.hid (C_5.out.trans (hbw4.out.mono C_5.out.size))
  have Va0_6 := Lib.hid (Va0_5.out.below hbw4.out)
  have RW_6 := Lib.hid (RW_5.out.below hbw4.out)
  have Vw_6 := Lib.hid (Vw_5.out.below hbw4.out)
  have X0_6 := Tw4
  have ow4 := hbw4.out.size
  clear Tw4 hbw4 R0_5 C_5 Va0_5 RW_5 Vw_5
  have hbA := below_var w4 x0 y0 Bw4 n0 dw4 26
  have R0_7 := Lib.hid (R0_6.out.butIn (ButIn.of hbA) C_6.out.size (.inr rfl))
  have C_7 := Lib.hid (C_6.out.trans (hbA.mono C_6.out.size))
  have Va0_7 := Lib.hid (Va0_6.out.below hbA)
  have RW_7 := Lib.hid (RW_6.out.below hbA)
  have Vw_7 := Lib.hid (Vw_6.out.below hbA)
  have X0_7 := Lib.hid (X0_6.out.below hbA)
  have Vx0_7 := Lib.hid (varT_new w4 x0 y0 Bw4 n0 dw4 26)
  have ow5 : w4.heap.size < (w4.alloc (.cells #[.int .i64 x0, .int .i64 y0, .slice Bw4 n0 dw4] 26)).heap.size := Vx0_7.out.lt
  clear hbA R0_6 C_6 Va0_6 RW_6 Vw_6 X0_6
  go_wp2_with fail
  generalize w4.alloc (.cells #[.int .i64 x0, .int .i64 y0, .slice Bw4 n0 dw4] 26) = w5 at *
  refine (HIM.out w5 _ _ X0_7.out.toRow).mono ?_
  rintro e w6 ⟨Ag, cg, rfl, Tw6, hbw6⟩
  have R0_8 := Lib.hid (R0_7.out.butIn (ButIn.of hbw6.out) C_7.out.size (.inr rfl))
  have C_8 := Lib.hid (C_7.out.trans (hbw6.out.mono C_7.out.size))
  have Va0_8 := Lib.hid (Va0_7.out.below hbw6.out)
  have RW_8 := Lib.hid (RW_7.out.below hbw6.out)
  have Vw_8 := Lib.hid (Vw_7.out.below hbw6.out)
  have X0_8 := Lib.hid (X0_7.out.below hbw6.out)
  have Vx0_8 := Lib.hid (Vx0_7.out.below hbw6.out)
  have RG_8 := Tw6
  have ow6 := hbw6.out.size
  clear Tw6 hbw6 R0_7 C_7 Va0_7 RW_7 Vw_7 X0_7 Vx0_7
  have Vwc0 := Vw_8.out.c0
  have Vwc1 := Vw_8.out.c1
  have Vwc2 := Vw_8.out.c2
  have Vwlt := Vw_8.out.lt
  have hbA := below_var w6 fx fy Ag fn cg 26
  have R0_9 := Lib.hid (R0_8.out.butIn (ButIn.of hbA) C_8.out.size (.inr rfl))
  have C_9 := Lib.hid (C_8.out.trans (hbA.mono C_8.out.size))
  have Va0_9 := Lib.hid (Va0_8.out.below hbA)
  have RW_9 := Lib.hid (RW_8.out.below hbA)
  have Vw_9 := Lib.hid (Vw_8.out.below hbA)
  have X0_9 := Lib.hid (X0_8.out.below hbA)
  have Vx0_9 := Lib.hid (Vx0_8.out.below hbA)
  have RG_9 := Lib.hid (RG_8.out.below hbA)
  have Vg_9 := Lib.hid (varT_new w6 fx fy Ag fn cg 26)
  have ow7 : w6.heap.size < (w6.alloc (.cells #[.int .i64 fx, .int .i64 fy, .slice Ag fn cg] 26)).heap.size := Vg_9.out.lt
  clear hbA R0_8 C_8 Va0_8 RW_8 Vw_8 X0_8 Vx0_8 RG_8
  go_wp2_with fail
  clear Vwc0 Vwc1 Vwc2 Vwlt
  generalize w6.alloc (.cells #[.int .i64 fx, .int .i64 fy, .slice Ag fn cg] 26) = w7 at *
  refine (eqFie fx fy _ _ fn _ _ _ _ _ _ ff w7 RG_9.out RW_9.out hys).mono ?_
  rintro e w8 ⟨rfl, hbe⟩
  have R0_10 := Lib.hid (R0_9.out.butIn (ButIn.of hbe.out) C_9.out.size (.inr rfl))
  have C_10 := Lib.hid (C_9.out.trans (hbe.out.mono C_9.out.size))
  have Va0_10 := Lib.hid (Va0_9.out.below hbe.out)
  have RW_10 := Lib.hid (RW_9.out.below hbe.out)
  have Vw_10 := Lib.hid (Vw_9.out.below hbe.out)
  have X0_10 := Lib.hid (X0_9.out.below hbe.out)
  have Vx0_10 := Lib.hid (Vx0_9.out.below hbe.out)
  have RG_10 := Lib.hid (RG_9.out.below hbe.out)
  have Vg_10 := Lib.hid (Vg_9.out.below hbe.out)
  have ow8 := hbe.out.size
  clear hbe R0_9 C_9 Va0_9 RW_9 Vw_9 X0_9 Vx0_9 RG_9 Vg_9
  -- the copy is as it was
  have Vx0c0 := Vx0_10.out.c0
  have Vx0c1 := Vx0_10.out.c1
  have Vx0c2 := Vx0_10.out.c2
  have Vx0lt := Vx0_10.out.lt
  have Va0c0 := Va0_10.out.c0
  have Va0c1 := Va0_10.out.c1
  have Va0c2 := Va0_10.out.c2
  have Va0lt := Va0_10.out.lt
  go_wp2_with fail
  have hR6 : Hid (RowV w8 w8.heap.size A0 n0 (bo p0)) := R0_10.out.mono C_10.out.size
  have hX6 := X0_10
  have x6 : w.heap.size < w8.heap.size := Va0_10.out.lt
  have y6 : w4.heap.size < w8.heap.size := Vx0_10.out.lt
  have K0 : Hid (Below w8.heap.size w8 w8.drew) := (Below.refl _ _).drew
  go_region_held3 (fun w' => w'.cell? ⟨w4.heap.size, 0, none⟩ = some (.int .i64 x0) ∧ w'.cell? ⟨w4.heap.size, 1, none⟩ = some (.int .i64 y0) ∧ w'.cell? ⟨w4.heap.size, 2, none⟩ = some (.slice Bw4 n0 dw4) ∧ w'.cell? ⟨w.heap.size, 0, none⟩ = some (.int .i64 x0) ∧ w'.cell? ⟨w.heap.size, 1, none⟩ = some (.int .i64 y0) ∧ w'.cell? ⟨w.heap.size, 2, none⟩ = some (.slice A0 n0 c0) ∧ Hid (Below w8.heap.size w8 w')) (first | (exact ⟨by assumption, by assumption, by assumption, by assumption, by assumption, by assumption, by assumption⟩) | go_keep)
    (first
      | ((go_at_call 11; refine (toFie x0 y0 A0 n0 c0 p0 _ (hR6.out.carry ((‹Hid (Below w8.heap.size w8 _)›).out)) hn0).mono ?_; rintro e wq7 ⟨A7, c7, rfl, O7, hb7⟩; have K7 := Lib.hid ((‹Hid (Below w8.heap.size w8 _)›).out.trans (hb7.out.mono (‹Hid (Below w8.heap.size w8 _)›).out.size)); obtain ⟨e0, e1, e2⟩ := keepT (v := w.heap.size) hb7.out (by assumption) (by assumption) (by assumption) (by assumption) x6; obtain ⟨f0, f1, f2⟩ := keepT (v := w4.heap.size) hb7.out (by assumption) (by assumption) (by assumption) (by assumption) y6))
      | ((go_at_call 13; refine (eqFie x0 y0 _ _ n0 _ _ _ _ _ _ p0 _ (hX6.out.below ((‹Hid (Below w8.heap.size w8 _)›).out)) (‹Hid (RowW _ _ _ A7 _ _)›).out hn0).mono ?_; rintro e w8x0 ⟨rfl, hb8⟩; have K8 := Lib.hid ((‹Hid (Below w8.heap.size w8 _)›).out.trans (hb8.out.mono (‹Hid (Below w8.heap.size w8 _)›).out.size)); obtain ⟨e0, e1, e2⟩ := keepT (v := w.heap.size) hb8.out (by assumption) (by assumption) (by assumption) (by assumption) x6; obtain ⟨f0, f1, f2⟩ := keepT (v := w4.heap.size) hb8.out (by assumption) (by assumption) (by assumption) (by assumption) y6)))
  have hb9 := Lib.hid ((‹Hid (Below w8.heap.size w8 w8x0)›).out)
  clear Vx0c0 Vx0c1 Vx0c2 Vx0lt Va0c0 Va0c1 Va0c2 Va0lt hR6 hX6 x6 y6 K0
  have R0_11 := Lib.hid (R0_10.out.butIn (ButIn.of hb9.out) C_10.out.size (.inr rfl))
  have C_11 := Lib.hid (C_10.out.trans (hb9.out.mono C_10.out.size))
  have Va0_11 := Lib.hid (Va0_10.out.below hb9.out)
  have RW_11 := Lib.hid (RW_10.out.below hb9.out)
  have Vw_11 := Lib.hid (Vw_10.out.below hb9.out)
  have X0_11 := Lib.hid (X0_10.out.below hb9.out)
  have Vx0_11 := Lib.hid (Vx0_10.out.below hb9.out)
  have RG_11 := Lib.hid (RG_10.out.below hb9.out)
  have Vg_11 := Lib.hid (Vg_10.out.below hb9.out)
  have ow9 := hb9.out.size
  clear hb9 R0_10 C_10 Va0_10 RW_10 Vw_10 X0_10 Vx0_10 RG_10 Vg_10
  have Vx0c0 := Vx0_11.out.c0
  have Vx0c1 := Vx0_11.out.c1
  have Vx0c2 := Vx0_11.out.c2
  have Vx0lt := Vx0_11.out.lt
  go_wp2_with fail
  clear Vx0c0 Vx0c1 Vx0c2 Vx0lt
  refine (markFie _ _ _ _ _ 1 w3.heap.size w4.heap.size p0 w8x0 X0_11.out hn0 (by omega)).mono ?_
  rintro e w10 ⟨rfl, _, hbm⟩
  clear X0_11
  have R0_12 := Lib.hid (R0_11.out.butIn hbm.out C_11.out.size (.inl (by omega)))
  have C_12 := Lib.hid (C_11.out.trans (hbm.out.toBelow (by omega) C_11.out.size))
  have Va0_12 := Lib.hid (Va0_11.out.but hbm.out (by omega))
  have RW_12 := Lib.hid (RW_11.out.but hbm.out (by omega))
  have Vw_12 := Lib.hid (Vw_11.out.but hbm.out (by omega))
  have Vx0_12 := Lib.hid (Vx0_11.out.but hbm.out (by omega))
  have RG_12 := Lib.hid (RG_11.out.but hbm.out (by omega))
  have Vg_12 := Lib.hid (Vg_11.out.but hbm.out (by omega))
  have ow10 := hbm.out.size
  clear hbm R0_11 C_11 Va0_11 RW_11 Vw_11 Vx0_11 RG_11 Vg_11
  have Vgc0 := Vg_12.out.c0
  have Vgc1 := Vg_12.out.c1
  have Vgc2 := Vg_12.out.c2
  have Vglt := Vg_12.out.lt
  have Vwc0 := Vw_12.out.c0
  have Vwc1 := Vw_12.out.c1
  have Vwc2 := Vw_12.out.c2
  have Vwlt := Vw_12.out.lt
  go_wp2_with fail
  clear Vgc0 Vgc1 Vgc2 Vglt Vwc0 Vwc1 Vwc2 Vwlt
  refine (eqFie fx fy _ _ fn _ _ _ _ _ _ ff w10 RG_12.out RW_12.out hys).mono ?_
  rintro e w11 ⟨rfl, hbe⟩
  have R0_13 := Lib.hid (R0_12.out.butIn (ButIn.of hbe.out) C_12.out.size (.inr rfl))
  have C_13 := Lib.hid (C_12.out.trans (hbe.out.mono C_12.out.size))
  have Va0_13 := Lib.hid (Va0_12.out.below hbe.out)
  have RW_13 := Lib.hid (RW_12.out.below hbe.out)
  have Vw_13 := Lib.hid (Vw_12.out.below hbe.out)
  have Vx0_13 := Lib.hid (Vx0_12.out.below hbe.out)
  have RG_13 := Lib.hid (RG_12.out.below hbe.out)
  have Vg_13 := Lib.hid (Vg_12.out.below hbe.out)
  have ow11 := hbe.out.size
  clear hbe R0_12 C_12 Va0_12 RW_12 Vw_12 Vx0_12 RG_12 Vg_12
  -- what came back is marked
  have Vgc0 := Vg_13.out.c0
  have Vgc1 := Vg_13.out.c1
  have Vgc2 := Vg_13.out.c2
  have Vglt := Vg_13.out.lt
  go_wp2_with fail
  clear Vgc0 Vgc1 Vgc2 Vglt
  refine (markFie _ _ _ _ _ 1 w5.heap.size w6.heap.size ff w11 RG_13.out hys (by omega)).mono ?_
  rintro e w12 ⟨rfl, RGm, hbm⟩
  clear RG_13
  have R0_14 := Lib.hid (R0_13.out.butIn hbm.out C_13.out.size (.inl (by omega)))
  have C_14 := Lib.hid (C_13.out.trans (hbm.out.toBelow (by omega) C_13.out.size))
  have Va0_14 := Lib.hid (Va0_13.out.but hbm.out (by omega))
  have RW_14 := Lib.hid (RW_13.out.but hbm.out (by omega))
  have Vw_14 := Lib.hid (Vw_13.out.but hbm.out (by omega))
  have Vx0_14 := Lib.hid (Vx0_13.out.but hbm.out (by omega))
  have Vg_14 := Lib.hid (Vg_13.out.but hbm.out (by omega))
  have ow12 := hbm.out.size
  have RM_14 := RGm
  clear hbm RGm R0_13 C_13 Va0_13 RW_13 Vw_13 Vx0_13 Vg_13
  have Vgc0 := Vg_14.out.c0
  have Vgc1 := Vg_14.out.c1
  have Vgc2 := Vg_14.out.c2
  have Vglt := Vg_14.out.lt
  go_wp2_with fail
  clear Vgc0 Vgc1 Vgc2 Vglt
  refine (heldFie _ _ _ _ _ 1 _ _ w12 RM_14.out hys (by omega)).mono ?_
  rintro e w13 ⟨rfl, hbh⟩
  have R0_15 := Lib.hid (R0_14.out.butIn (ButIn.of hbh.out) C_14.out.size (.inr rfl))
  have C_15 := Lib.hid (C_14.out.trans (hbh.out.mono C_14.out.size))
  have Va0_15 := Lib.hid (Va0_14.out.below hbh.out)
  have RW_15 := Lib.hid (RW_14.out.below hbh.out)
  have Vw_15 := Lib.hid (Vw_14.out.below hbh.out)
  have Vx0_15 := Lib.hid (Vx0_14.out.below hbh.out)
  have Vg_15 := Lib.hid (Vg_14.out.below hbh.out)
  have RM_15 := Lib.hid (RM_14.out.below hbh.out)
  have ow13 := hbh.out.size
  clear hbh R0_14 C_14 Va0_14 RW_14 Vw_14 Vx0_14 Vg_14 RM_14
  -- once more
  have Va0c0 := Va0_15.out.c0
  have Va0c1 := Va0_15.out.c1
  have Va0c2 := Va0_15.out.c2
  have Va0lt := Va0_15.out.lt
  go_wp2_with fail
  clear Va0c0 Va0c1 Va0c2 Va0lt
  refine (toFie x0 y0 A0 n0 c0 p0 w13 (R0_15.out.mono C_15.out.size) hn0).mono ?_
  rintro e w14 ⟨Bw14, dw14, rfl, Tw14, hbw14⟩
  have R0_16 := Lib.hid (R0_15.out.butIn (ButIn.of hbw14.out) C_15.out.size (.inr rfl))
  have C_16 := Lib.hid (C_15.out.trans (hbw14.out.mono C_15.out.size))
  have Va0_16 := Lib.hid (Va0_15.out.below hbw14.out)
  have RW_16 := Lib.hid (RW_15.out.below hbw14.out)
  have Vw_16 := Lib.hid (Vw_15.out.below hbw14.out)
  have Vx0_16 := Lib.hid (Vx0_15.out.below hbw14.out)
  have Vg_16 := Lib.hid (Vg_15.out.below hbw14.out)
  have RM_16 := Lib.hid (RM_15.out.below hbw14.out)
  have Z0_16 := Tw14
  have ow14 := hbw14.out.size
  clear Tw14 hbw14 R0_15 C_15 Va0_15 RW_15 Vw_15 Vx0_15 Vg_15 RM_15
  go_wp2_with fail
  refine (HIM.out w14 _ _ Z0_16.out.toRow).mono ?_
  rintro e w15 ⟨Ah, ch, rfl, Tw15, hbw15⟩
  have R0_17 := Lib.hid (R0_16.out.butIn (ButIn.of hbw15.out) C_16.out.size (.inr rfl))
  have C_17 := Lib.hid (C_16.out.trans (hbw15.out.mono C_16.out.size))
  have Va0_17 := Lib.hid (Va0_16.out.below hbw15.out)
  have RW_17 := Lib.hid (RW_16.out.below hbw15.out)
  have Vw_17 := Lib.hid (Vw_16.out.below hbw15.out)
  have Vx0_17 := Lib.hid (Vx0_16.out.below hbw15.out)
  have Vg_17 := Lib.hid (Vg_16.out.below hbw15.out)
  have RM_17 := Lib.hid (RM_16.out.below hbw15.out)
  have Z0_17 := Lib.hid (Z0_16.out.below hbw15.out)
  have RH_17 := Tw15
  have ow15 := hbw15.out.size
  clear Tw15 hbw15 R0_16 C_16 Va0_16 RW_16 Vw_16 Vx0_16 Vg_16 RM_16 Z0_16
  have Vwc0 := Vw_17.out.c0
  have Vwc1 := Vw_17.out.c1
  have Vwc2 := Vw_17.out.c2
  have Vwlt := Vw_17.out.lt
  have hbA := below_var w15 fx fy Ah fn ch 26
  have R0_18 := Lib.hid (R0_17.out.butIn (ButIn.of hbA) C_17.out.size (.inr rfl))
  have C_18 := Lib.hid (C_17.out.trans (hbA.mono C_17.out.size))
  have Va0_18 := Lib.hid (Va0_17.out.below hbA)
  have RW_18 := Lib.hid (RW_17.out.below hbA)
  have Vw_18 := Lib.hid (Vw_17.out.below hbA)
  have Vx0_18 := Lib.hid (Vx0_17.out.below hbA)
  have Vg_18 := Lib.hid (Vg_17.out.below hbA)
  have RM_18 := Lib.hid (RM_17.out.below hbA)
  have Z0_18 := Lib.hid (Z0_17.out.below hbA)
  have RH_18 := Lib.hid (RH_17.out.below hbA)
  have Vh_18 := Lib.hid (varT_new w15 fx fy Ah fn ch 26)
  have ow16 : w15.heap.size < (w15.alloc (.cells #[.int .i64 fx, .int .i64 fy, .slice Ah fn ch] 26)).heap.size := Vh_18.out.lt
  clear hbA R0_17 C_17 Va0_17 RW_17 Vw_17 Vx0_17 Vg_17 RM_17 Z0_17 RH_17
  go_wp2_with fail
  clear Vwc0 Vwc1 Vwc2 Vwlt
  generalize w15.alloc (.cells #[.int .i64 fx, .int .i64 fy, .slice Ah fn ch] 26) = w16 at *
  refine (eqFie fx fy _ _ fn _ _ _ _ _ _ ff w16 RH_18.out RW_18.out hys).mono ?_
  rintro e w17 ⟨rfl, hbe⟩
  have R0_19 := Lib.hid (R0_18.out.butIn (ButIn.of hbe.out) C_18.out.size (.inr rfl))
  have C_19 := Lib.hid (C_18.out.trans (hbe.out.mono C_18.out.size))
  have Va0_19 := Lib.hid (Va0_18.out.below hbe.out)
  have RW_19 := Lib.hid (RW_18.out.below hbe.out)
  have Vw_19 := Lib.hid (Vw_18.out.below hbe.out)
  have Vx0_19 := Lib.hid (Vx0_18.out.below hbe.out)
  have Vg_19 := Lib.hid (Vg_18.out.below hbe.out)
  have RM_19 := Lib.hid (RM_18.out.below hbe.out)
  have Z0_19 := Lib.hid (Z0_18.out.below hbe.out)
  have RH_19 := Lib.hid (RH_18.out.below hbe.out)
  have Vh_19 := Lib.hid (Vh_18.out.below hbe.out)
  have ow17 := hbe.out.size
  clear hbe R0_18 C_18 Va0_18 RW_18 Vw_18 Vx0_18 Vg_18 RM_18 Z0_18 RH_18 Vh_18
  have Vgc0 := Vg_19.out.c0
  have Vgc1 := Vg_19.out.c1
  have Vgc2 := Vg_19.out.c2
  have Vglt := Vg_19.out.lt
  go_wp2_with fail
  clear Vgc0 Vgc1 Vgc2 Vglt
  refine (heldFie _ _ _ _ _ 1 _ _ w17 RM_19.out hys (by omega)).mono ?_
  rintro e w18 ⟨rfl, hbh⟩
  have R0_20 := Lib.hid (R0_19.out.butIn (ButIn.of hbh.out) C_19.out.size (.inr rfl))
  have C_20 := Lib.hid (C_19.out.trans (hbh.out.mono C_19.out.size))
  have Va0_20 := Lib.hid (Va0_19.out.below hbh.out)
  have RW_20 := Lib.hid (RW_19.out.below hbh.out)
  have Vw_20 := Lib.hid (Vw_19.out.below hbh.out)
  have Vx0_20 := Lib.hid (Vx0_19.out.below hbh.out)
  have Vg_20 := Lib.hid (Vg_19.out.below hbh.out)
  have RM_20 := Lib.hid (RM_19.out.below hbh.out)
  have Z0_20 := Lib.hid (Z0_19.out.below hbh.out)
  have RH_20 := Lib.hid (RH_19.out.below hbh.out)
  have Vh_20 := Lib.hid (Vh_19.out.below hbh.out)
  have ow18 := hbh.out.size
  clear hbh R0_19 C_19 Va0_19 RW_19 Vw_19 Vx0_19 Vg_19 RM_19 Z0_19 RH_19 Vh_19
  go_wp2_with fail
  go_ret
  exact ⟨rfl, C_20.out⟩

end Go.Proofs.Ythhimielelpcoaa
