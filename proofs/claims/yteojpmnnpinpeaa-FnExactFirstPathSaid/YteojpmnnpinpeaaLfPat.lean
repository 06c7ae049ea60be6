/-
  What is proved here: the law FnExactFirstPath, as a walk. Conditions: the fields and lists are ones that a machine can hold.
-/
import Derived.Test.YteojpmnnpinpeaaPab
import Derived.Test.YteojpmnnpinpeaaFio
import Derived.Deep.RegionHeld3
import Derived.Test.YteojpmnnpinpeaaLvi
namespace Go.Proofs.Yteojpmnnpinpeaa
open Go.RowKit
set_option linter.unusedVariables false

set_option maxHeartbeats 16000000 in
set_option maxRecDepth 1000000 in
theorem lawPat (x0 y0 : Int) (A0 : Option Addr) (n0 c0 : Nat) (p0 : Nat → Bool) {w : World} (hl0 : FieldIn w x0 y0 A0 n0 p0)  :
    Calls Try.prog 5 #[.agg #[.int .i64 x0, .int .i64 y0, .slice A0 n0 c0]] w fun e w' => e = .returned (.bool true) ∧ Below w.heap.size w w' := by
  obtain ⟨hrow0, hN0, hwx0, hwy0⟩ := hl0
  by_cases hq0 : n0 ≤ 1048576
  rotate_left
  · have HB0 := Lib.hid (below_var w x0 y0 A0 n0 c0 30)
    have b1 : szN n0 1048576 < 0 := by unfold szN; rw [if_neg hq0]; omega
    have HZ := Lib.hid (szField_is x0 y0 A0 n0 c0 1048576 (Nat.le_refl _) hN0 (w.alloc (.cells #[.int .i64 x0, .int .i64 y0, .slice A0 n0 c0] 30)))
    clear hrow0
    generalize szN n0 1048576 = r at *
    go_enter Try.func5, Try.ntmps5
    go_wp2_with fail
    refine HZ.out.mono ?_
    rintro e w' ⟨rfl, hb⟩
    have HB1 := Lib.hid (HB0.out.trans (hb.mono HB0.out.size))
    clear hb HZ HB0
    go_wp2_with fail
    go_ret
    exact ⟨rfl, HB1.out⟩
  have hn0 : n0 ≤ 1048576 := by omega
  obtain ⟨b, fn, ff, hys, hS, hI⟩ := patBoth x0 y0 n0 p0 hn0
  have HSP := Lib.hid hS
  have HIM := Lib.hid hI
  have R0_0 : Hid (RowV w w.heap.size A0 n0 (bo p0)) := hrow0
  have C_0 : Hid (Below w.heap.size w w) := Below.refl _ _
  have b1 : ¬ szN n0 1048576 < 0 := by rw [szN_eq hn0]; omega
  have HZ := Lib.hid (szField_is x0 y0 A0 n0 c0 1048576 (Nat.le_refl _) hN0 (w.alloc (.cells #[.int .i64 x0, .int .i64 y0, .slice A0 n0 c0] 30)))
  have hb0 := below_var w x0 y0 A0 n0 c0 30
  have R0_1 := Lib.hid (R0_0.out.butIn (ButIn.of hb0) C_0.out.size (.inr rfl))
  have C_1 := Lib.hid (C_0.out.trans (hb0.mono C_0.out.size))
  have Va0_1 := Lib.hid (varT_new w x0 y0 A0 n0 c0 30)
  have oa0 : w.heap.size < (w.alloc (.cells #[.int .i64 x0, .int .i64 y0, .slice A0 n0 c0] 30)).heap.size := Va0_1.out.lt
  clear hb0 R0_0 C_0
  clear hS hI hrow0
  generalize szN n0 1048576 = r at *
  go_enter Try.func5, Try.ntmps5
  go_wp2_with fail
  generalize (w.alloc (.cells #[.int .i64 x0, .int .i64 y0, .slice A0 n0 c0] 30)) = a0 at *
  refine HZ.out.mono ?_
  rintro e wz ⟨rfl, hbz⟩
  clear HZ
  have R0_2 := Lib.hid (R0_1.out.butIn (ButIn.of hbz) C_1.out.size (.inr rfl))
  have C_2 := Lib.hid (C_1.out.trans (hbz.mono C_1.out.size))
  have Va0_2 := Lib.hid (Va0_1.out.below hbz)
  have oz := hbz.size
  clear hbz R0_1 C_1 Va0_1
  have Va0c0 := Va0_2.out.c0
  have Va0c1 := Va0_2.out.c1
  have Va0c2 := Va0_2.out.c2
  have Va0lt := Va0_2.out.lt
  go_wp2_with fail
  clear Va0c0 Va0c1 Va0c2 Va0lt
  refine (toFie x0 y0 A0 n0 c0 p0 wz (R0_2.out.mono C_2.out.size) hn0).mono ?_
  rintro e w1 ⟨Bw1, dw1, rfl, Tw1, hbw1⟩
  have R0_3 := Lib.hid (R0_2.out.butIn (ButIn.of hbw1.out) C_2.out.size (.inr rfl))
  have C_3 := Lib.hid (C_2.out.trans (hbw1.out.mono C_2.out.size))
  have Va0_3 := Lib.hid (Va0_2.out.below hbw1.out)
  have S0_3 := Tw1
  have ow1 := hbw1.out.size
  clear Tw1 hbw1 R0_2 C_2 Va0_2
  go_wp2_with fail
  refine (HSP.out w1 _ _ S0_3.out.toRow).mono ?_
  rintro e w2 ⟨Aw, cw, rfl, Tw2, hbw2⟩
  have R0_4 := Lib.hid (R0_3.out.butIn (ButIn.of hbw2.out) C_3.out.size (.inr rfl))
  have C_4 := Lib.hid (C_3.out.trans (hbw2.out.mono C_3.out.size))
  have Va0_4 := Lib.hid (Va0_3.out.below hbw2.out)
  have S0_4 := Lib.hid (S0_3.out.below hbw2.out)
  have RW_4 := Tw2
  have ow2 := hbw2.out.size
  clear Tw2 hbw2 R0_3 C_3 Va0_3 S0_3
  clear S0_4
  have Va0c0 := Va0_4.out.c0
  have Va0c1 := Va0_4.out.c1
  have Va0c2 := Va0_4.out.c2
  have Va0lt := Va0_4.out.lt
  go_wp2_with fail
  clear Va0c0 Va0c1 Va0c2 Va0lt
  refine (toFie x0 y0 A0 n0 c0 p0 w2 (R0_4.out.mono C_4.out.size) hn0).mono ?_
  rintro e w3 ⟨Bw3, dw3, rfl, Tw3, hbw3⟩
  have R0_5 := Lib.hid (R0_4.out.butIn (ButIn.of hbw3.out) C_4.out.size (.inr rfl))
  have C_5 := Lib.hid (C_4.out.trans (hbw3.out.mono C_4.out.size))
  have Va0_5 := Lib.hid (Va0_4.out.below hbw3.out)
  have RW_5 := Lib.hid (RW_4.out.below hbw3.out)
  have X0_5 := Tw3
  have ow3 := hbw3.out.size
  clear Tw3 hbw3 R0_4 C_4 Va0_4 RW_4
  have hbA := below_var w3 x0 y0 Bw3 n0 dw3 35
  have R0_6 := Lib.hid (R0_5.out.butIn (ButIn.of hbA) C_5.out.size (.inr rfl))
  have C_6 := Lib.hid (C_5.out.trans (hbA.mono C_5.out.size))
  have Va0_6 := Lib.hid (Va0_5.out.below hbA)
  have RW_6 := Lib.hid (RW_5.out.below hbA)
  have X0_6 := Lib.hid (X0_5.out.below hbA)
  have Vx0_6 := Lib.hid (varT_new w3 x0 y0 Bw3 n0 dw3 35)
  have ow4 : w3.heap.size < (w3.alloc (.cells #[.int .i64 x0, .int .i64 y0, .slice Bw3 n0 dw3] 35)).heap.size := Vx0_6.out.lt
  clear hbA R0_5 C_5 Va0_5 RW_5 X0_5
  go_wp2_with fail
  generalize w3.alloc (.cells #[.int .i64 x0, .int .i64 y0, .slice Bw3 n0 dw3] 35) = w4 at *
  refine (HIM.out w4 _ _ X0_6.out.toRow).mono ?_
  rintro e w5 ⟨Ag, cg, rfl, Tw5, hbw5⟩
  have R0_7 := Lib.hid (R0_6.out.butIn (ButIn.of hbw5.out) C_6.out.size (.inr rfl))
  have C_7 := Lib.hid (C_6.out.trans (hbw5.out.mono C_6.out.size))
  have Va0_7 := Lib.hid (Va0_6.out.below hbw5.out)
  have RW_7 := Lib.hid (RW_6.out.below hbw5.out)
  have X0_7 := Lib.hid (X0_6.out.below hbw5.out)
  have Vx0_7 := Lib.hid (Vx0_6.out.below hbw5.out)
  have RG_7 := Tw5
  have ow5 := hbw5.out.size
  clear Tw5 hbw5 R0_6 C_6 Va0_6 RW_6 X0_6 Vx0_6
  go_wp2_with fail
  refine (eqIv _ _ fn _ _ _ _ _ _ ff w5 RG_7.out RW_7.out hys).mono ?_
  rintro e w6 ⟨rfl, hbe⟩
  have R0_8 := Lib.hid (R0_7.out.butIn (ButIn.of hbe.out) C_7.out.size (.inr rfl))
  have C_8 := Lib.hid (C_7.out.trans (hbe.out.mono C_7.out.size))
  have Va0_8 := Lib.hid (Va0_7.out.below hbe.out)
  have RW_8 := Lib.hid (RW_7.out.below hbe.out)
  have X0_8 := Lib.hid (X0_7.out.below hbe.out)
  have Vx0_8 := Lib.hid (Vx0_7.out.below hbe.out)
  have RG_8 := Lib.hid (RG_7.out.below hbe.out)
  have ow6 := hbe.out.size
  clear hbe R0_7 C_7 Va0_7 RW_7 X0_7 Vx0_7 RG_7
  -- the copy is as it was
  have Vx0c0 := Vx0_8.out.c0
  have Vx0c1 := Vx0_8.out.c1
  have Vx0c2 := Vx0_8.out.c2
  have Vx0lt := Vx0_8.out.lt
  have Va0c0 := Va0_8.out.c0
  have Va0c1 := Va0_8.out.c1
  have Va0c2 := Va0_8.out.c2
  have Va0lt := Va0_8.out.lt
  go_wp2_with fail
  have hR6 : Hid (RowV w6 w6.heap.size A0 n0 (bo p0)) := R0_8.out.mono C_8.out.size
  have hX6 := X0_8
  have x6 : w.heap.size < w6.heap.size := Va0_8.out.lt
  have y6 : w3.heap.size < w6.heap.size := Vx0_8.out.lt
  have K0 : Hid (Below w6.heap.size w6 w6.drew) := (Below.refl _ _).drew
  go_region_held3 (fun w' => w'.cell? ⟨w3.heap.size, 0, none⟩ = some (.int .i64 x0) ∧ w'.cell? ⟨w3.heap.size, 1, none⟩ = some (.int .i64 y0) ∧ w'.cell? ⟨w3.heap.size, 2, none⟩ = some (.slice Bw3 n0 dw3) ∧ w'.cell? ⟨w.heap.size, 0, none⟩ = some (.int .i64 x0) ∧ w'.cell? ⟨w.heap.size, 1, none⟩ = some (.int .i64 y0) ∧ w'.cell? ⟨w.heap.size, 2, none⟩ = some (.slice A0 n0 c0) ∧ Hid (Below w6.heap.size w6 w')) (first | (exact ⟨by assumption, by assumption, by assumption, by assumption, by assumption, by assumption, by assumption⟩) | go_keep)
    (first
      | ((go_at_call 22; refine (toFie x0 y0 A0 n0 c0 p0 _ (hR6.out.carry ((‹Hid (Below w6.heap.size w6 _)›).out)) hn0).mono ?_; rintro e wq7 ⟨A7, c7, rfl, O7, hb7⟩; have K7 := Lib.hid ((‹Hid (Below w6.heap.size w6 _)›).out.trans (hb7.out.mono (‹Hid (Below w6.heap.size w6 _)›).out.size)); obtain ⟨e0, e1, e2⟩ := keepT (v := w.heap.size) hb7.out (by assumption) (by assumption) (by assumption) (by assumption) x6; obtain ⟨f0, f1, f2⟩ := keepT (v := w3.heap.size) hb7.out (by assumption) (by assumption) (by assumption) (by assumption) y6))
      | ((go_at_call 25; refine (eqFie x0 y0 _ _ n0 _ _ _ _ _ _ p0 _ (hX6.out.below ((‹Hid (Below w6.heap.size w6 _)›).out)) (‹Hid (RowW _ _ _ A7 _ _)›).out hn0).mono ?_; rintro e w8x0 ⟨rfl, hb8⟩; have K8 := Lib.hid ((‹Hid (Below w6.heap.size w6 _)›).out.trans (hb8.out.mono (‹Hid (Below w6.heap.size w6 _)›).out.size)); obtain ⟨e0, e1, e2⟩ := keepT (v := w.heap.size) hb8.out (by assumption) (by assumption) (by assumption) (by assumption) x6; obtain ⟨f0, f1, f2⟩ := keepT (v := w3.heap.size) hb8.out (by assumption) (by assumption) (by assumption) (by assumption) y6)))
  have hb9 := Lib.hid ((‹Hid (Below w6.heap.size w6 w8x0)›).out)
  clear Vx0c0 Vx0c1 Vx0c2 Vx0lt Va0c0 Va0c1 Va0c2 Va0lt hR6 hX6 x6 y6 K0
  have R0_9 := Lib.hid (R0_8.out.butIn (ButIn.of hb9.out) C_8.out.size (.inr rfl))
  have C_9 := Lib.hid (C_8.out.trans (hb9.out.mono C_8.out.size))
  have Va0_9 := Lib.hid (Va0_8.out.below hb9.out)
  have RW_9 := Lib.hid (RW_8.out.below hb9.out)
  have X0_9 := Lib.hid (X0_8.out.below hb9.out)
  have Vx0_9 := Lib.hid (Vx0_8.out.below hb9.out)
  have RG_9 := Lib.hid (RG_8.out.below hb9.out)
  have ow7 := hb9.out.size
  clear hb9 R0_8 C_8 Va0_8 RW_8 X0_8 Vx0_8 RG_8
  have Vx0c0 := Vx0_9.out.c0
  have Vx0c1 := Vx0_9.out.c1
  have Vx0c2 := Vx0_9.out.c2
  have Vx0lt := Vx0_9.out.lt
  go_wp2_with fail
  clear Vx0c0 Vx0c1 Vx0c2 Vx0lt
  refine (markFie _ _ _ _ _ 1 w2.heap.size w3.heap.size p0 w8x0 X0_9.out hn0 (by omega)).mono ?_
  rintro e w8 ⟨rfl, _, hbm⟩
  clear X0_9
  have R0_10 := Lib.hid (R0_9.out.butIn hbm.out C_9.out.size (.inl (by omega)))
  have C_10 := Lib.hid (C_9.out.trans (hbm.out.toBelow (by omega) C_9.out.size))
  have Va0_10 := Lib.hid (Va0_9.out.but hbm.out (by omega))
  have RW_10 := Lib.hid (RW_9.out.but hbm.out (by omega))
  have Vx0_10 := Lib.hid (Vx0_9.out.but hbm.out (by omega))
  have RG_10 := Lib.hid (RG_9.out.but hbm.out (by omega))
  have ow8 := hbm.out.size
  clear hbm R0_9 C_9 Va0_9 RW_9 Vx0_9 RG_9
  go_wp2_with fail
  refine (eqIv _ _ fn _ _ _ _ _ _ ff w8 RG_10.out RW_10.out hys).mono ?_
  rintro e w9 ⟨rfl, hbe⟩
  have R0_11 := Lib.hid (R0_10.out.butIn (ButIn.of hbe.out) C_10.out.size (.inr rfl))
  have C_11 := Lib.hid (C_10.out.trans (hbe.out.mono C_10.out.size))
  have Va0_11 := Lib.hid (Va0_10.out.below hbe.out)
  have RW_11 := Lib.hid (RW_10.out.below hbe.out)
  have Vx0_11 := Lib.hid (Vx0_10.out.below hbe.out)
  have RG_11 := Lib.hid (RG_10.out.below hbe.out)
  have ow9 := hbe.out.size
  clear hbe R0_10 C_10 Va0_10 RW_10 Vx0_10 RG_10
  -- what came back is marked
  go_wp2_with fail
  refine (markIv _ _ _ 1 w4.heap.size w5.heap.size ff w9 RG_11.out hys (by omega)).mono ?_
  rintro e w10 ⟨rfl, RGm, hbm⟩
  clear RG_11
  have R0_12 := Lib.hid (R0_11.out.butIn hbm.out C_11.out.size (.inl (by omega)))
  have C_12 := Lib.hid (C_11.out.trans (hbm.out.toBelow (by omega) C_11.out.size))
  have Va0_12 := Lib.hid (Va0_11.out.but hbm.out (by omega))
  have RW_12 := Lib.hid (RW_11.out.but hbm.out (by omega))
  have Vx0_12 := Lib.hid (Vx0_11.out.but hbm.out (by omega))
  have ow10 := hbm.out.size
  have RM_12 := RGm
  clear hbm RGm R0_11 C_11 Va0_11 RW_11 Vx0_11
  go_wp2_with fail
  refine (heldIv _ _ _ 1 _ _ w10 RM_12.out hys (by omega)).mono ?_
  rintro e w11 ⟨rfl, hbh⟩
  have R0_13 := Lib.hid (R0_12.out.butIn (ButIn.of hbh.out) C_12.out.size (.inr rfl))
  have C_13 := Lib.hid (C_12.out.trans (hbh.out.mono C_12.out.size))
  have Va0_13 := Lib.hid (Va0_12.out.below hbh.out)
  have RW_13 := Lib.hid (RW_12.out.below hbh.out)
  have Vx0_13 := Lib.hid (Vx0_12.out.below hbh.out)
  have RM_13 := Lib.hid (RM_12.out.below hbh.out)
  have ow11 := hbh.out.size
  clear hbh R0_12 C_12 Va0_12 RW_12 Vx0_12 RM_12
  -- once more
  have Va0c0 := Va0_13.out.c0
  have Va0c1 := Va0_13.out.c1
  have Va0c2 := Va0_13.out.c2
  have Va0lt := Va0_13.out.lt
  go_wp2_with fail
  clear Va0c0 Va0c1 Va0c2 Va0lt
  refine (toFie x0 y0 A0 n0 c0 p0 w11 (R0_13.out.mono C_13.out.size) hn0).mono ?_
  rintro e w12 ⟨Bw12, dw12, rfl, Tw12, hbw12⟩
  have R0_14 := Lib.hid (R0_13.out.butIn (ButIn.of hbw12.out) C_13.out.size (.inr rfl))
  have C_14 := Lib.hid (C_13.out.trans (hbw12.out.mono C_13.out.size))
  have Va0_14 := Lib.hid (Va0_13.out.below hbw12.out)
  have RW_14 := Lib.hid (RW_13.out.below hbw12.out)
  have Vx0_14 := Lib.hid (Vx0_13.out.below hbw12.out)
  have RM_14 := Lib.hid (RM_13.out.below hbw12.out)
  have Z0_14 := Tw12
  have ow12 := hbw12.out.size
  clear Tw12 hbw12 R0_13 C_13 Va0_13 RW_13 Vx0_13 RM_13
  go_wp2_with fail
  refine (HIM.out w12 _ _ Z0_14.out.toRow).mono ?_
  rintro e w13 ⟨Ah, ch, rfl, Tw13, hbw13⟩
  have R0_15 := Lib.hid (R0_14.out.butIn (ButIn.of hbw13.out) C_14.out.size (.inr rfl))
  have C_15 := Lib.hid (C_14.out.trans (hbw13.out.mono C_14.out.size))
  have Va0_15 := Lib.hid (Va0_14.out.below hbw13.out)
  have RW_15 := Lib.hid (RW_14.out.below hbw13.out)
  have Vx0_15 := Lib.hid (Vx0_14.out.below hbw13.out)
  have RM_15 := Lib.hid (RM_14.out.below hbw13.out)
  have Z0_15 := Lib.hid (Z0_14.out.below hbw13.out)
  have RH_15 := Tw13
  have ow13 := hbw13.out.size
  clear Tw13 hbw13 R0_14 C_14 Va0_14 RW_14 Vx0_14 RM_14 Z0_14
  go_wp2_with fail
  refine (eqIv _ _ fn _ _ _ _ _ _ ff w13 RH_15.out RW_15.out hys).mono ?_
  rintro e w14 ⟨rfl, hbe⟩
  have R0_16 := Lib.hid (R0_15.out.butIn (ButIn.of hbe.out) C_15.out.size (.inr rfl))
  have C_16 := Lib.hid (C_15.out.trans (hbe.out.mono C_15.out.size))
  have Va0_16 := Lib.hid (Va0_15.out.below hbe.out)
  have RW_16 := Lib.hid (RW_15.out.below hbe.out)
  have Vx0_16 := Lib.hid (Vx0_15.out.below hbe.out)
  have RM_16 := Lib.hid (RM_15.out.below hbe.out)
  have Z0_16 := Lib.hid (Z0_15.out.below hbe.out)
  have RH_16 := Lib.hid (RH_15.out.below hbe.out)
  have ow14 := hbe.out.size
  clear hbe R0_15 C_15 Va0_15 RW_15 Vx0_15 RM_15 Z0_15 RH_15
  go_wp2_with fail
  refine (heldIv _ _ _ 1 _ _ w14 RM_16.out hys (by omega)).mono ?_
  rintro e w15 ⟨rfl, hbh⟩
  have R0_17 := Lib.hid (R0_16.out.butIn (ButIn.of hbh.out) C_16.out.size (.inr rfl))
  have C_17 := Lib.hid (C_16.out.trans (hbh.out.mono C_16.out.size))
  have Va0_17 := Lib.hid (Va0_16.out.below hbh.out)
  have RW_17 := Lib.hid (RW_16.out.below hbh.out)
  have Vx0_17 := Lib.hid (Vx0_16.out.below hbh.out)
  have RM_17 := Lib.hid (RM_16.out.below hbh.out)
  have Z0_17 := Lib.hid (Z0_16.out.below hbh.out)
  have RH_17 := Lib.hid (RH_16.out.below hbh.out)
  have ow15 := hbh.out.size
  clear hbh R0_16 C_16 Va0_16 RW_16 Vx0_16 RM_16 Z0_16 RH_16
  go_wp2_with fail
  go_ret
  exact ⟨rfl, C_17.out⟩

end Go.Proofs.Yteojpmnnpinpeaa
