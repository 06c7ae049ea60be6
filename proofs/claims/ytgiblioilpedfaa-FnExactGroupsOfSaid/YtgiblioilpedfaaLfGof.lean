/-
  What is proved here: the law FnExactGroupsOf, as a walk. Conditions: the fields and lists are ones that a machine can hold.
-/
import Derived.Test.YtgiblioilpedfaaGof
import Derived.Test.YtgiblioilpedfaaFio
import Derived.Deep.RegionHeld3
import Derived.Test.YtgiblioilpedfaaLvi
namespace Go.Proofs.Ytgiblioilpedfaa
open Go.RowKit
set_option linter.unusedVariables false

set_option maxHeartbeats 16000000 in
set_option maxRecDepth 1000000 in
theorem lawGof (x0 y0 : Int) (A0 : Option Addr) (n0 c0 : Nat) (p0 : Nat → Bool) {w : World} (hl0 : FieldIn w x0 y0 A0 n0 p0)  :
    Calls Try.prog 4 #[.agg #[.int .i64 x0, .int .i64 y0, .slice A0 n0 c0]] w fun e w' => e = .returned (.bool true) ∧ Below w.heap.size w w' := by
  obtain ⟨hrow0, hN0, hwx0, hwy0⟩ := hl0
  by_cases hq0 : n0 ≤ 1048576
  rotate_left
  · have HB0 := Lib.hid (below_var w x0 y0 A0 n0 c0 35)
    have b1 : szN n0 1048576 < 0 := by unfold szN; rw [if_neg hq0]; omega
    have HZ := Lib.hid (szField_is x0 y0 A0 n0 c0 1048576 (Nat.le_refl _) hN0 (w.alloc (.cells #[.int .i64 x0, .int .i64 y0, .slice A0 n0 c0] 35)))
    clear hrow0
    generalize szN n0 1048576 = r at *
    go_enter Try.func4, Try.ntmps4
    go_wp2_with fail
    refine HZ.out.mono ?_
    rintro e w' ⟨rfl, hb⟩
    have HB1 := Lib.hid (HB0.out.trans (hb.mono HB0.out.size))
    clear hb HZ HB0
    go_wp2_with fail
    go_ret
    exact ⟨rfl, HB1.out⟩
  have hn0 : n0 ≤ 1048576 := by omega
  obtain ⟨b, fn, gn, ff, gg, hys, hzs, hS, hI⟩ := gofBoth x0 y0 n0 p0 hn0
  have HSP := Lib.hid hS
  have HIM := Lib.hid hI
  have R0_0 : Hid (RowV w w.heap.size A0 n0 (bo p0)) := hrow0
  have C_0 : Hid (Below w.heap.size w w) := Below.refl _ _
  have b1 : ¬ szN n0 1048576 < 0 := by rw [szN_eq hn0]; omega
  have HZ := Lib.hid (szField_is x0 y0 A0 n0 c0 1048576 (Nat.le_refl _) hN0 (w.alloc (.cells #[.int .i64 x0, .int .i64 y0, .slice A0 n0 c0] 35)))
  have hb0 := below_var w x0 y0 A0 n0 c0 35
  have R0_1 := Lib.hid (R0_0.out.butIn (ButIn.of hb0) C_0.out.size (.inr rfl))
  have C_1 := Lib.hid (C_0.out.trans (hb0.mono C_0.out.size))
  have Va0_1 := Lib.hid (varT_new w x0 y0 A0 n0 c0 35)
  have oa0 : w.heap.size < (w.alloc (.cells #[.int .i64 x0, .int .i64 y0, .slice A0 n0 c0] 35)).heap.size := Va0_1.out.lt
  clear hb0 R0_0 C_0
  clear hS hI hrow0
  generalize szN n0 1048576 = r at *
  go_enter Try.func4, Try.ntmps4
  go_wp2_with fail
  generalize (w.alloc (.cells #[.int .i64 x0, .int .i64 y0, .slice A0 n0 c0] 35)) = a0 at *
  refine HZ.out.mono ?_
  rintro e wz ⟨rfl, hbz⟩
  clear HZ
  have R0_2 := Lib.hid (R0_1.out.butIn (ButIn.of hbz) C_1.out.size (.inr rfl))
  have C_2 := Lib.hid (C_1.out.trans (hbz.mono C_1.out.size))
  have Va0_2 := Lib.hid (Va0_1.out.below hbz)
  have oz := hbz.size
  clear hbz R0_1 C_1 Va0_1
  have Va0c0 := Va0_2.out.c0
  have Va0c1 := Va0_2.out.c1
  have Va0c2 := Va0_2.out.c2
  have Va0lt := Va0_2.out.lt
  go_wp2_with fail
  clear Va0c0 Va0c1 Va0c2 Va0lt
  refine (toFie x0 y0 A0 n0 c0 p0 wz (R0_2.out.mono C_2.out.size) hn0).mono ?_
  rintro e w1 ⟨Bw1, dw1, rfl, Tw1, hbw1⟩
  have R0_3 := Lib.hid (R0_2.out.butIn (ButIn.of hbw1.out) C_2.out.size (.inr rfl))
  have C_3 := Lib.hid (C_2.out.trans (hbw1.out.mono C_2.out.size))
  have Va0_3 := Lib.hid (Va0_2.out.below hbw1.out)
  have S0_3 := Tw1
  have ow1 := hbw1.out.size
  clear Tw1 hbw1 R0_2 C_2 Va0_2
  go_wp2_with fail
  refine (HSP.out w1 _ _ S0_3.out.toRow).mono ?_
  rintro e w2 ⟨Aw, cw, Bw, dw, mw, rfl, hlow, hhiw, Tw2, Uw2, hbw2⟩
  have R0_4 := Lib.hid (R0_3.out.butIn (ButIn.of hbw2.out) C_3.out.size (.inr rfl))
  have C_4 := Lib.hid (C_3.out.trans (hbw2.out.mono C_3.out.size))
  have Va0_4 := Lib.hid (Va0_3.out.below hbw2.out)
  have S0_4 := Lib.hid (S0_3.out.below hbw2.out)
  have RW_4 := Tw2
  have RW2_4 := Uw2
  have ow2 := hbw2.out.size
  clear Tw2 Uw2 hbw2 R0_3 C_3 Va0_3 S0_3
  clear S0_4
  have Va0c0 := Va0_4.out.c0
  have Va0c1 := Va0_4.out.c1
  have Va0c2 := Va0_4.out.c2
  have Va0lt := Va0_4.out.lt
  go_wp2_with fail
  clear Va0c0 Va0c1 Va0c2 Va0lt
  refine (toFie x0 y0 A0 n0 c0 p0 w2 (R0_4.out.mono C_4.out.size) hn0).mono ?_
  rintro e w3 ⟨Bw3, dw3, rfl, Tw3, hbw3⟩
  have R0_5 := Lib.hid (R0_4.out.butIn (ButIn.of hbw3.out) C_4.out.size (.inr rfl))
  have C_5 := Lib.hid (C_4.out.trans (hbw3.out.mono C_4.out.size))
  have Va0_5 := Lib.hid (Va0_4.out.below hbw3.out)
  have RW_5 := Lib.hid (RW_4.out.below hbw3.out)
  have RW2_5 := Lib.hid (RW2_4.out.below hbw3.out)
  have X0_5 := Tw3
  have ow3 := hbw3.out.size
  clear Tw3 hbw3 R0_4 C_4 Va0_4 RW_4 RW2_4
  have hbA := below_var w3 x0 y0 Bw3 n0 dw3 40
  have R0_6 := Lib.hid (R0_5.out.butIn (ButIn.of hbA) C_5.out.size (.inr rfl))
  have C_6 := Lib.hid (C_5.out.trans (hbA.mono C_5.out.size))
  have Va0_6 := Lib.hid (Va0_5.out.below hbA)
  have RW_6 := Lib.hid (RW_5.out.below hbA)
  have RW2_6 := Lib.hid (RW2_5.out.below hbA)
  have X0_6 := Lib.hid (X0_5.out.below hbA)
  have Vx0_6 := Lib.hid (varT_new w3 x0 y0 Bw3 n0 dw3 40)
  have ow4 : w3.heap.size < (w3.alloc (.cells #[.int .i64 x0, .int .i64 y0, .slice Bw3 n0 dw3] 40)).heap.size := Vx0_6.out.lt
  clear hbA R0_5 C_5 Va0_5 RW_5 RW2_5 X0_5
  go_wp2_with fail
  generalize w3.alloc (.cells #[.int .i64 x0, .int .i64 y0, .slice Bw3 n0 dw3] 40) = w4 at *
  refine (HIM.out w4 _ _ X0_6.out.toRow).mono ?_
  rintro e w5 ⟨Ag, cg, Bg, dg, mg, rfl, hlog, hhig, Tw5, Uw5, hbw5⟩
  have R0_7 := Lib.hid (R0_6.out.butIn (ButIn.of hbw5.out) C_6.out.size (.inr rfl))
  have C_7 := Lib.hid (C_6.out.trans (hbw5.out.mono C_6.out.size))
  have Va0_7 := Lib.hid (Va0_6.out.below hbw5.out)
  have RW_7 := Lib.hid (RW_6.out.below hbw5.out)
  have RW2_7 := Lib.hid (RW2_6.out.below hbw5.out)
  have X0_7 := Lib.hid (X0_6.out.below hbw5.out)
  have Vx0_7 := Lib.hid (Vx0_6.out.below hbw5.out)
  have RG_7 := Tw5
  have RG2_7 := Uw5
  have ow5 := hbw5.out.size
  clear Tw5 Uw5 hbw5 R0_6 C_6 Va0_6 RW_6 RW2_6 X0_6 Vx0_6
  go_wp2_with fail
  refine (eqIv _ _ fn _ _ _ _ _ _ ff w5 RG_7.out RW_7.out hys).mono ?_
  rintro e w6 ⟨rfl, hbe⟩
  have R0_8 := Lib.hid (R0_7.out.butIn (ButIn.of hbe.out) C_7.out.size (.inr rfl))
  have C_8 := Lib.hid (C_7.out.trans (hbe.out.mono C_7.out.size))
  have Va0_8 := Lib.hid (Va0_7.out.below hbe.out)
  have RW_8 := Lib.hid (RW_7.out.below hbe.out)
  have RW2_8 := Lib.hid (RW2_7.out.below hbe.out)
  have X0_8 := Lib.hid (X0_7.out.below hbe.out)
  have Vx0_8 := Lib.hid (Vx0_7.out.below hbe.out)
  have RG_8 := Lib.hid (RG_7.out.below hbe.out)
  have RG2_8 := Lib.hid (RG2_7.out.below hbe.out)
  have ow6 := hbe.out.size
  clear hbe R0_7 C_7 Va0_7 RW_7 RW2_7 X0_7 Vx0_7 RG_7 RG2_7
  go_wp2_with fail
  refine (eqIv _ _ gn _ _ _ _ _ _ gg w6 RG2_8.out RW2_8.out hzs).mono ?_
  rintro e w7 ⟨rfl, hbe⟩
  have R0_9 := Lib.hid (R0_8.out.butIn (ButIn.of hbe.out) C_8.out.size (.inr rfl))
  have C_9 := Lib.hid (C_8.out.trans (hbe.out.mono C_8.out.size))
  have Va0_9 := Lib.hid (Va0_8.out.below hbe.out)
  have RW_9 := Lib.hid (RW_8.out.below hbe.out)
  have RW2_9 := Lib.hid (RW2_8.out.below hbe.out)
  have X0_9 := Lib.hid (X0_8.out.below hbe.out)
  have Vx0_9 := Lib.hid (Vx0_8.out.below hbe.out)
  have RG_9 := Lib.hid (RG_8.out.below hbe.out)
  have RG2_9 := Lib.hid (RG2_8.out.below hbe.out)
  have ow7 := hbe.out.size
  clear hbe R0_8 C_8 Va0_8 RW_8 RW2_8 X0_8 Vx0_8 RG_8 RG2_8
  -- the copy is as it was
  have Vx0c0 := Vx0_9.out.c0
  have Vx0c1 := Vx0_9.out.c1
  have Vx0c2 := Vx0_9.out.c2
  have Vx0lt := Vx0_9.out.lt
  have Va0c0 := Va0_9.out.c0
  have Va0c1 := Va0_9.out.c1
  have Va0c2 := Va0_9.out.c2
  have Va0lt := Va0_9.out.lt
  go_wp2_with fail
  have hR6 : Hid (RowV w7 w7.heap.size A0 n0 (bo p0)) := R0_9.out.mono C_9.out.size
  have hX6 := X0_9
  have x6 : w.heap.size < w7.heap.size := Va0_9.out.lt
  have y6 : w3.heap.size < w7.heap.size := Vx0_9.out.lt
  have K0 : Hid (Below w7.heap.size w7 w7.drew) := (Below.refl _ _).drew
  go_region_held3 (fun w' => w'.cell? ⟨w3.heap.size, 0, none⟩ = some (.int .i64 x0) ∧ w'.cell? ⟨w3.heap.size, 1, none⟩ = some (.int .i64 y0) ∧ w'.cell? ⟨w3.heap.size, 2, none⟩ = some (.slice Bw3 n0 dw3) ∧ w'.cell? ⟨w.heap.size, 0, none⟩ = some (.int .i64 x0) ∧ w'.cell? ⟨w.heap.size, 1, none⟩ = some (.int .i64 y0) ∧ w'.cell? ⟨w.heap.size, 2, none⟩ = some (.slice A0 n0 c0) ∧ Hid (Below w7.heap.size w7 w')) (first | (exact ⟨by assumption, by assumption, by assumption, by assumption, by assumption, by assumption, by assumption⟩) | go_keep)
    (first
      | ((go_at_call 22; refine (toFie x0 y0 A0 n0 c0 p0 _ (hR6.out.carry ((‹Hid (Below w7.heap.size w7 _)›).out)) hn0).mono ?_; rintro e wq7 ⟨A7, c7, rfl, O7, hb7⟩; have K7 := Lib.hid ((‹Hid (Below w7.heap.size w7 _)›).out.trans (hb7.out.mono (‹Hid (Below w7.heap.size w7 _)›).out.size)); obtain ⟨e0, e1, e2⟩ := keepT (v := w.heap.size) hb7.out (by assumption) (by assumption) (by assumption) (by assumption) x6; obtain ⟨f0, f1, f2⟩ := keepT (v := w3.heap.size) hb7.out (by assumption) (by assumption) (by assumption) (by assumption) y6))
      | ((go_at_call 25; refine (eqFie x0 y0 _ _ n0 _ _ _ _ _ _ p0 _ (hX6.out.below ((‹Hid (Below w7.heap.size w7 _)›).out)) (‹Hid (RowW _ _ _ A7 _ _)›).out hn0).mono ?_; rintro e w8x0 ⟨rfl, hb8⟩; have K8 := Lib.hid ((‹Hid (Below w7.heap.size w7 _)›).out.trans (hb8.out.mono (‹Hid (Below w7.heap.size w7 _)›).out.size)); obtain ⟨e0, e1, e2⟩ := keepT (v := w.heap.size) hb8.out (by assumption) (by assumption) (by assumption) (by assumption) x6; obtain ⟨f0, f1, f2⟩ := keepT (v := w3.heap.size) hb8.out (by assumption) (by assumption) (by assumption) (by assumption) y6)))
  have hb9 := Lib.hid ((‹Hid (Below w7.heap.size w7 w8x0)›).out)
  clear Vx0c0 Vx0c1 Vx0c2 Vx0lt Va0c0 Va0c1 Va0c2 Va0lt hR6 hX6 x6 y6 K0
  have R0_10 := Lib.hid (R0_9.out.butIn (ButIn.of hb9.out) C_9.out.size (.inr rfl))
  have C_10 := Lib.hid (C_9.out.trans (hb9.out.mono C_9.out.size))
  have Va0_10 := Lib.hid (Va0_9.out.below hb9.out)
  have RW_10 := Lib.hid (RW_9.out.below hb9.out)
  have RW2_10 := Lib.hid (RW2_9.out.below hb9.out)
  have X0_10 := Lib.hid (X0_9.out.below hb9.out)
  have Vx0_10 := Lib.hid (Vx0_9.out.below hb9.out)
  have RG_10 := Lib.hid (RG_9.out.below hb9.out)
  have RG2_10 := Lib.hid (RG2_9.out.below hb9.out)
  have ow8 := hb9.out.size
  clear hb9 R0_9 C_9 Va0_9 RW_9 RW2_9 X0_9 Vx0_9 RG_9 RG2_9
  have Vx0c0 := Vx0_10.out.c0
  have Vx0c1 := Vx0_10.out.c1
  have Vx0c2 := Vx0_10.out.c2
  have Vx0lt := Vx0_10.out.lt
  go_wp2_with fail
  clear Vx0c0 Vx0c1 Vx0c2 Vx0lt
  refine (markFie _ _ _ _ _ 1 w2.heap.size w3.heap.size p0 w8x0 X0_10.out hn0 (by omega)).mono ?_
  rintro e w9 ⟨rfl, _, hbm⟩
  clear X0_10
  have R0_11 := Lib.hid (R0_10.out.butIn hbm.out C_10.out.size (.inl (by omega)))
  have C_11 := Lib.hid (C_10.out.trans (hbm.out.toBelow (by omega) C_10.out.size))
  have Va0_11 := Lib.hid (Va0_10.out.but hbm.out (by omega))
  have RW_11 := Lib.hid (RW_10.out.but hbm.out (by omega))
  have RW2_11 := Lib.hid (RW2_10.out.but hbm.out (by omega))
  have Vx0_11 := Lib.hid (Vx0_10.out.but hbm.out (by omega))
  have RG_11 := Lib.hid (RG_10.out.but hbm.out (by omega))
  have RG2_11 := Lib.hid (RG2_10.out.but hbm.out (by omega))
  have ow9 := hbm.out.size
  clear hbm R0_10 C_10 Va0_10 RW_10 RW2_10 Vx0_10 RG_10 RG2_10
  go_wp2_with fail
  refine (eqIv _ _ fn _ _ _ _ _ _ ff w9 RG_11.out RW_11.out hys).mono ?_
  rintro e w10 ⟨rfl, hbe⟩
  have R0_12 := Lib.hid (R0_11.out.butIn (ButIn.of hbe.out) C_11.out.size (.inr rfl))
  have C_12 := Lib.hid (C_11.out.trans (hbe.out.mono C_11.out.size))
  have Va0_12 := Lib.hid (Va0_11.out.below hbe.out)
  have RW_12 := Lib.hid (RW_11.out.below hbe.out)
  have RW2_12 := Lib.hid (RW2_11.out.below hbe.out)
  have Vx0_12 := Lib.hid (Vx0_11.out.below hbe.out)
  have RG_12 := Lib.hid (RG_11.out.below hbe.out)
  have RG2_12 := Lib.hid (RG2_11.out.below hbe.out)
  have ow10 := hbe.out.size
  clear hbe R0_11 C_11 Va0_11 RW_11 RW2_11 Vx0_11 RG_11 RG2_11
  go_wp2_with fail
  refine (eqIv _ _ gn _ _ _ _ _ _ gg w10 RG2_12.out RW2_12.out hzs).mono ?_
  rintro e w11 ⟨rfl, hbe⟩
  have R0_13 := Lib.hid (R0_12.out.butIn (ButIn.of hbe.out) C_12.out.size (.inr rfl))
  have C_13 := Lib.hid (C_12.out.trans (hbe.out.mono C_12.out.size))
  have Va0_13 := Lib.hid (Va0_12.out.below hbe.out)
  have RW_13 := Lib.hid (RW_12.out.below hbe.out)
  have RW2_13 := Lib.hid (RW2_12.out.below hbe.out)
  have Vx0_13 := Lib.hid (Vx0_12.out.below hbe.out)
  have RG_13 := Lib.hid (RG_12.out.below hbe.out)
  have RG2_13 := Lib.hid (RG2_12.out.below hbe.out)
  have ow11 := hbe.out.size
  clear hbe R0_12 C_12 Va0_12 RW_12 RW2_12 Vx0_12 RG_12 RG2_12
  -- what came back is marked
  go_wp2_with fail
  refine (markIv _ _ _ 1 w4.heap.size mg ff w11 RG_13.out hys (by omega)).mono ?_
  rintro e w12 ⟨rfl, RGm, hbm⟩
  clear RG_13
  have R0_14 := Lib.hid (R0_13.out.butIn hbm.out C_13.out.size (.inl (by omega)))
  have C_14 := Lib.hid (C_13.out.trans (hbm.out.toBelow (by omega) C_13.out.size))
  have Va0_14 := Lib.hid (Va0_13.out.but hbm.out (by omega))
  have RW_14 := Lib.hid (RW_13.out.but hbm.out (by omega))
  have RW2_14 := Lib.hid (RW2_13.out.but hbm.out (by omega))
  have Vx0_14 := Lib.hid (Vx0_13.out.but hbm.out (by omega))
  have RG2_14 := Lib.hid (RG2_13.out.but hbm.out (by omega))
  have ow12 := hbm.out.size
  have RM_14 := RGm
  clear hbm RGm R0_13 C_13 Va0_13 RW_13 RW2_13 Vx0_13 RG2_13
  go_wp2_with fail
  refine (markIv _ gn _ (1 + fn) mg w5.heap.size gg w12 RG2_14.out hzs (by omega)).mono ?_
  rintro e w13 ⟨rfl, RGm, hbm⟩
  clear RG2_14
  have R0_15 := Lib.hid (R0_14.out.butIn hbm.out C_14.out.size (.inl (by omega)))
  have C_15 := Lib.hid (C_14.out.trans (hbm.out.toBelow (by omega) C_14.out.size))
  have Va0_15 := Lib.hid (Va0_14.out.but hbm.out (by omega))
  have RW_15 := Lib.hid (RW_14.out.but hbm.out (by omega))
  have RW2_15 := Lib.hid (RW2_14.out.but hbm.out (by omega))
  have Vx0_15 := Lib.hid (Vx0_14.out.but hbm.out (by omega))
  have RM_15 := Lib.hid (RM_14.out.but hbm.out (by omega))
  have ow13 := hbm.out.size
  have RM2_15 := RGm
  clear hbm RGm R0_14 C_14 Va0_14 RW_14 RW2_14 Vx0_14 RM_14
  go_wp2_with fail
  refine (heldIv _ _ _ 1 _ _ w13 RM_15.out hys (by omega)).mono ?_
  rintro e w14 ⟨rfl, hbh⟩
  have R0_16 := Lib.hid (R0_15.out.butIn (ButIn.of hbh.out) C_15.out.size (.inr rfl))
  have C_16 := Lib.hid (C_15.out.trans (hbh.out.mono C_15.out.size))
  have Va0_16 := Lib.hid (Va0_15.out.below hbh.out)
  have RW_16 := Lib.hid (RW_15.out.below hbh.out)
  have RW2_16 := Lib.hid (RW2_15.out.below hbh.out)
  have Vx0_16 := Lib.hid (Vx0_15.out.below hbh.out)
  have RM_16 := Lib.hid (RM_15.out.below hbh.out)
  have RM2_16 := Lib.hid (RM2_15.out.below hbh.out)
  have ow14 := hbh.out.size
  clear hbh R0_15 C_15 Va0_15 RW_15 RW2_15 Vx0_15 RM_15 RM2_15
  go_wp2_with fail
  refine (heldIv _ gn _ (1 + fn) _ _ w14 RM2_16.out hzs (by omega)).mono ?_
  rintro e w15 ⟨rfl, hbh⟩
  have R0_17 := Lib.hid (R0_16.out.butIn (ButIn.of hbh.out) C_16.out.size (.inr rfl))
  have C_17 := Lib.hid (C_16.out.trans (hbh.out.mono C_16.out.size))
  have Va0_17 := Lib.hid (Va0_16.out.below hbh.out)
  have RW_17 := Lib.hid (RW_16.out.below hbh.out)
  have RW2_17 := Lib.hid (RW2_16.out.below hbh.out)
  have Vx0_17 := Lib.hid (Vx0_16.out.below hbh.out)
  have RM_17 := Lib.hid (RM_16.out.below hbh.out)
  have RM2_17 := Lib.hid (RM2_16.out.below hbh.out)
  have ow15 := hbh.out.size
  clear hbh R0_16 C_16 Va0_16 RW_16 RW2_16 Vx0_16 RM_16 RM2_16
  -- once more
  have Va0c0 := Va0_17.out.c0
  have Va0c1 := Va0_17.out.c1
  have Va0c2 := Va0_17.out.c2
  have Va0lt := Va0_17.out.lt
  go_wp2_with fail
  clear Va0c0 Va0c1 Va0c2 Va0lt
  refine (toFie x0 y0 A0 n0 c0 p0 w15 (R0_17.out.mono C_17.out.size) hn0).mono ?_
  rintro e w16 ⟨Bw16, dw16, rfl, Tw16, hbw16⟩
  have R0_18 := Lib.hid (R0_17.out.butIn (ButIn.of hbw16.out) C_17.out.size (.inr rfl))
  have C_18 := Lib.hid (C_17.out.trans (hbw16.out.mono C_17.out.size))
  have Va0_18 := Lib.hid (Va0_17.out.below hbw16.out)
  have RW_18 := Lib.hid (RW_17.out.below hbw16.out)
  have RW2_18 := Lib.hid (RW2_17.out.below hbw16.out)
  have Vx0_18 := Lib.hid (Vx0_17.out.below hbw16.out)
  have RM_18 := Lib.hid (RM_17.out.below hbw16.out)
  have RM2_18 := Lib.hid (RM2_17.out.below hbw16.out)
  have Z0_18 := Tw16
  have ow16 := hbw16.out.size
  clear Tw16 hbw16 R0_17 C_17 Va0_17 RW_17 RW2_17 Vx0_17 RM_17 RM2_17
  go_wp2_with fail
  refine (HIM.out w16 _ _ Z0_18.out.toRow).mono ?_
  rintro e w17 ⟨Ah, ch, Bh, dh, mh, rfl, hloh, hhih, Tw17, Uw17, hbw17⟩
  have R0_19 := Lib.hid (R0_18.out.butIn (ButIn.of hbw17.out) C_18.out.size (.inr rfl))
  have C_19 := Lib.hid (C_18.out.trans (hbw17.out.mono C_18.out.size))
  have Va0_19 := Lib.hid (Va0_18.out.below hbw17.out)
  have RW_19 := Lib.hid (RW_18.out.below hbw17.out)
  have RW2_19 := Lib.hid (RW2_18.out.below hbw17.out)
  have Vx0_19 := Lib.hid (Vx0_18.out.below hbw17.out)
  have RM_19 := Lib.hid (RM_18.out.below hbw17.out)
  have RM2_19 := Lib.hid (RM2_18.out.below hbw17.out)
  have Z0_19 := Lib.hid (Z0_18.out.below hbw17.out)
  have RH_19 := Tw17
  have RH2_19 := Uw17
  have ow17 := hbw17.out.size
  clear Tw17 Uw17 hbw17 R0_18 C_18 Va0_18 RW_18 RW2_18 Vx0_18 RM_18 RM2_18 Z0_18
  go_wp2_with fail
  refine (eqIv _ _ fn _ _ _ _ _ _ ff w17 RH_19.out RW_19.out hys).mono ?_
  rintro e w18 ⟨rfl, hbe⟩
  have R0_20 := Lib.hid (R0_19.out.butIn (ButIn.of hbe.out) C_19.out.size (.inr rfl))
  have C_20 := Lib.hid (C_19.out.trans (hbe.out.mono C_19.out.size))
  have Va0_20 := Lib.hid (Va0_19.out.below hbe.out)
  have RW_20 := Lib.hid (RW_19.out.below hbe.out)
  have RW2_20 := Lib.hid (RW2_19.out.below hbe.out)
  have Vx0_20 := Lib.hid (Vx0_19.out.below hbe.out)
  have RM_20 := Lib.hid (RM_19.out.below hbe.out)
  have RM2_20 := Lib.hid (RM2_19.out.below hbe.out)
  have Z0_20 := Lib.hid (Z0_19.out.below hbe.out)
  have RH_20 := Lib.hid (RH_19.out.below hbe.out)
  have RH2_20 := Lib.hid (RH2_19.out.below hbe.out)
  have ow18 := hbe.out.size
  clear hbe R0_19 C_19 Va0_19 RW_19 RW2_19 Vx0_19 RM_19 RM2_19 Z0_19 RH_19 RH2_19
  go_wp2_with fail
  refine (eqIv _ _ gn _ _ _ _ _ _ gg w18 RH2_20.out RW2_20.out hzs).mono ?_
  rintro e w19 ⟨rfl, hbe⟩
  have R0_21 := Lib.hid (R0_20.out.butIn (ButIn.of hbe.out) C_20.out.size (.inr rfl))
  have C_21 := Lib.hid (C_20.out.trans (hbe.out.mono C_20.out.size))
  have Va0_21 := Lib.hid (Va0_20.out.below hbe.out)
  have RW_21 := Lib.hid (RW_20.out.below hbe.out)
  have RW2_21 := Lib.hid (RW2_20.out.below hbe.out)
  have Vx0_21 := Lib.hid (Vx0_20.out.below hbe.out)
  have RM_21 := Lib.hid (RM_20.out.below hbe.out)
  have RM2_21 := Lib.hid (RM2_20.out.below hbe.out)
  have Z0_21 := Lib.hid (Z0_20.out.below hbe.out)
  have RH_21 := Lib.hid (RH_20.out.below hbe.out)
  have RH2_21 := Lib.hid (RH2_20.out.below hbe.out)
  have ow19 := hbe.out.size
  clear hbe R0_20 C_20 Va0_20 RW_20 RW2_20 Vx0_20 RM_20 RM2_20 Z0_20 RH_20 RH2_20
  go_wp2_with fail
  refine (heldIv _ _ _ 1 _ _ w19 RM_21.out hys (by omega)).mono ?_
  rintro e w20 ⟨rfl, hbh⟩
  have R0_22 := Lib.hid (R0_21.out.butIn (ButIn.of hbh.out) C_21.out.size (.inr rfl))
  have C_22 := Lib.hid (C_21.out.trans (hbh.out.mono C_21.out.size))
  have Va0_22 := Lib.hid (Va0_21.out.below hbh.out)
  have RW_22 := Lib.hid (RW_21.out.below hbh.out)
  have RW2_22 := Lib.hid (RW2_21.out.below hbh.out)
  have Vx0_22 := Lib.hid (Vx0_21.out.below hbh.out)
  have RM_22 := Lib.hid (RM_21.out.below hbh.out)
  have RM2_22 := Lib.hid (RM2_21.out.below hbh.out)
  have Z0_22 := Lib.hid (Z0_21.out.below hbh.out)
  have RH_22 := Lib.hid (RH_21.out.below hbh.out)
  have RH2_22 := Lib.hid (RH2_21.out.below hbh.out)
  have ow20 := hbh.out.size
  clear hbh R0_21 C_21 Va0_21 RW_21 RW2_21 Vx0_21 RM_21 RM2_21 Z0_21 RH_21 RH2_21
  go_wp2_with fail
  refine (heldIv _ gn _ (1 + fn) _ _ w20 RM2_22.out hzs (by omega)).mono ?_
  rintro e w21 ⟨rfl, hbh⟩
  have R0_23 := Lib.hid (R0_22.out.butIn (ButIn.of hbh.out) C_22.out.size (.inr rfl))
  have C_23 := Lib.hid (C_22.out.trans (hbh.out.mono C_22.out.size))
  have Va0_23 := Lib.hid (Va0_22.out.below hbh.out)
  have RW_23 := Lib.hid (RW_22.out.below hbh.out)
  have RW2_23 := Lib.hid (RW2_22.out.below hbh.out)
  have Vx0_23 := Lib.hid (Vx0_22.out.below hbh.out)
  have RM_23 := Lib.hid (RM_22.out.below hbh.out)
  have RM2_23 := Lib.hid (RM2_22.out.below hbh.out)
  have Z0_23 := Lib.hid (Z0_22.out.below hbh.out)
  have RH_23 := Lib.hid (RH_22.out.below hbh.out)
  have RH2_23 := Lib.hid (RH2_22.out.below hbh.out)
  have ow21 := hbh.out.size
  clear hbh R0_22 C_22 Va0_22 RW_22 RW2_22 Vx0_22 RM_22 RM2_22 Z0_22 RH_22 RH2_22
  go_wp2_with fail
  go_ret
  exact ⟨rfl, C_23.out⟩

end Go.Proofs.Ytgiblioilpedfaa
