/-
  What is proved here: the law FnExactInvadeFrom, as a walk. Conditions: the fields and lists are ones that a machine can hold.
-/
import Derived.Test.YthhimielelpcoaaIvb
import Derived.Test.YthhimielelpcoaaFio
import Derived.Deep.RegionHeld3
import Derived.Test.YthhimielelpcoaaLvi
import Derived.Test.YthhimielelpcoaaLvf
namespace Go.Proofs.Ythhimielelpcoaa
open Go.RowKit
set_option linter.unusedVariables false

set_option maxHeartbeats 16000000 in
set_option maxRecDepth 1000000 in
theorem lawInv (A0 : Option Addr) (n0 c0 : Nat) (z0 : List Nat) (wd : Int) (hg : Int) (sat : Int) (cnt : Int) {w : World} (hl0 : ListF w A0 n0 z0)  :
    Calls Try.prog 4 #[.slice A0 n0 c0, .int .i64 wd, .int .i64 hg, .int .i64 sat, .int .i64 cnt] w fun e w' => e = .returned (.bool true) ∧ Below w.heap.size w w' := by
  obtain ⟨hsz0, hrowi0, hmax0⟩ := hl0
  subst hsz0
  have hN0 : z0.length ≤ 9223372036854775807 := by unfold maxLen at hmax0; omega
  have hrow0 : RowV w w.heap.size A0 z0.length (fv (at0 z0)) := hrowi0
  clear hrowi0 hmax0
  by_cases hbig0 : 1048576 < z0.length
  · clear hrow0
    have HB0 := Lib.hid (Below.refl w.heap.size w)
    go_enter Try.func4, Try.ntmps4
    go_wp2
    go_ret
    exact ⟨rfl, HB0.out⟩
  have hn0 : z0.length ≤ 1048576 := by omega
  clear hbig0
  obtain ⟨b, fn, ff, hys, hS, hI⟩ := invBoth z0 wd hg sat cnt hn0
  have HSP := Lib.hid hS
  have HIM := Lib.hid hI
  have R0_0 : Hid (RowV w w.heap.size A0 z0.length (fv (at0 z0))) := hrow0
  have C_0 : Hid (Below w.heap.size w w) := Below.refl _ _
  clear hS hI hrow0
  go_enter Try.func4, Try.ntmps4
  go_wp2_with fail
  refine (toFv A0 z0.length c0 (at0 z0) w (R0_0.out.mono C_0.out.size) hn0).mono ?_
  rintro e w1 ⟨Bw1, dw1, rfl, Tw1, hbw1⟩
  have R0_1 := Lib.hid (R0_0.out.butIn (ButIn.of hbw1.out) C_0.out.size (.inr rfl))
  have C_1 := Lib.hid (C_0.out.trans (hbw1.out.mono C_0.out.size))
  have S0_1 := Tw1
  have ow1 := hbw1.out.size
  clear Tw1 hbw1 R0_0 C_0
  go_wp2_with fail
  refine (HSP.out w1 _ _ S0_1.out.toRow).mono ?_
  rintro e w2 ⟨Aw, cw, rfl, Tw2, hbw2⟩
  have R0_2 := Lib.hid (R0_1.out.butIn (ButIn.of hbw2.out) C_1.out.size (.inr rfl))
  have C_2 := Lib.hid (C_1.out.trans (hbw2.out.mono C_1.out.size))
  have S0_2 := Lib.hid (S0_1.out.below hbw2.out)
  have RW_2 := Tw2
  have ow2 := hbw2.out.size
  clear Tw2 hbw2 R0_1 C_1 S0_1
  clear S0_2
  go_wp2_with fail
  refine (toFv A0 z0.length c0 (at0 z0) w2 (R0_2.out.mono C_2.out.size) hn0).mono ?_
  rintro e w3 ⟨Bw3, dw3, rfl, Tw3, hbw3⟩
  have R0_3 := Lib.hid (R0_2.out.butIn (ButIn.of hbw3.out) C_2.out.size (.inr rfl))
  have C_3 := Lib.hid (C_2.out.trans (hbw3.out.mono C_2.out.size))
  have RW_3 := Lib.hid (RW_2.out.below hbw3.out)
  have X0_3 := Tw3
  have ow3 := hbw3.out.size
  clear Tw3 hbw3 R0_2 C_2 RW_2
  go_wp2_with fail
  refine (HIM.out w3 _ _ X0_3.out.toRow).mono ?_
  rintro e w4 ⟨Ag, cg, rfl, Tw4, hbw4⟩
  have R0_4 := Lib.hid (R0_3.out.butIn (ButIn.of hbw4.out) C_3.out.size (.inr rfl))
  have C_4 := Lib.hid (C_3.out.trans (hbw4.out.mono C_3.out.size))
  have RW_4 := Lib.hid (RW_3.out.below hbw4.out)
  have X0_4 := Lib.hid (X0_3.out.below hbw4.out)
  have RG_4 := Tw4
  have ow4 := hbw4.out.size
  clear Tw4 hbw4 R0_3 C_3 RW_3 X0_3
  go_wp2_with fail
  refine (eqIv _ _ fn _ _ _ _ _ _ ff w4 RG_4.out RW_4.out hys).mono ?_
  rintro e w5 ⟨rfl, hbe⟩
  have R0_5 := Lib.hid (R0_4.out.butIn (ButIn.of hbe.out) C_4.out.size (.inr rfl))
  have C_5 := Lib.hid (C_4.out.trans (hbe.out.mono C_4.out.size))
  have RW_5 := Lib.hid (RW_4.out.below hbe.out)
  have X0_5 := Lib.hid (X0_4.out.below hbe.out)
  have RG_5 := Lib.hid (RG_4.out.below hbe.out)
  have ow5 := hbe.out.size
  clear hbe R0_4 C_4 RW_4 X0_4 RG_4
  -- the copy is as it was
  go_wp2_with fail
  refine (toFv A0 z0.length c0 (at0 z0) w5 (R0_5.out.mono C_5.out.size) hn0).mono ?_
  rintro e w6 ⟨Bw6, dw6, rfl, Tw6, hbw6⟩
  have R0_6 := Lib.hid (R0_5.out.butIn (ButIn.of hbw6.out) C_5.out.size (.inr rfl))
  have C_6 := Lib.hid (C_5.out.trans (hbw6.out.mono C_5.out.size))
  have RW_6 := Lib.hid (RW_5.out.below hbw6.out)
  have X0_6 := Lib.hid (X0_5.out.below hbw6.out)
  have RG_6 := Lib.hid (RG_5.out.below hbw6.out)
  have Y0_6 := Tw6
  have ow6 := hbw6.out.size
  clear Tw6 hbw6 R0_5 C_5 RW_5 X0_5 RG_5
  go_wp2_with fail
  refine (eqFv _ _ z0.length _ _ _ _ _ _ (at0 z0) w6 X0_6.out Y0_6.out hn0).mono ?_
  rintro e w7 ⟨rfl, hbe⟩
  have R0_7 := Lib.hid (R0_6.out.butIn (ButIn.of hbe.out) C_6.out.size (.inr rfl))
  have C_7 := Lib.hid (C_6.out.trans (hbe.out.mono C_6.out.size))
  have RW_7 := Lib.hid (RW_6.out.below hbe.out)
  have X0_7 := Lib.hid (X0_6.out.below hbe.out)
  have RG_7 := Lib.hid (RG_6.out.below hbe.out)
  have Y0_7 := Lib.hid (Y0_6.out.below hbe.out)
  have ow7 := hbe.out.size
  clear hbe R0_6 C_6 RW_6 X0_6 RG_6 Y0_6
  clear Y0_7
  go_wp2_with fail
  refine (markFv _ _ _ 1 w2.heap.size w3.heap.size (at0 z0) w7 X0_7.out hn0 (by omega)).mono ?_
  rintro e w8 ⟨rfl, _, hbm⟩
  clear X0_7
  have R0_8 := Lib.hid (R0_7.out.butIn hbm.out C_7.out.size (.inl (by omega)))
  have C_8 := Lib.hid (C_7.out.trans (hbm.out.toBelow (by omega) C_7.out.size))
  have RW_8 := Lib.hid (RW_7.out.but hbm.out (by omega))
  have RG_8 := Lib.hid (RG_7.out.but hbm.out (by omega))
  have ow8 := hbm.out.size
  clear hbm R0_7 C_7 RW_7 RG_7
  go_wp2_with fail
  refine (eqIv _ _ fn _ _ _ _ _ _ ff w8 RG_8.out RW_8.out hys).mono ?_
  rintro e w9 ⟨rfl, hbe⟩
  have R0_9 := Lib.hid (R0_8.out.butIn (ButIn.of hbe.out) C_8.out.size (.inr rfl))
  have C_9 := Lib.hid (C_8.out.trans (hbe.out.mono C_8.out.size))
  have RW_9 := Lib.hid (RW_8.out.below hbe.out)
  have RG_9 := Lib.hid (RG_8.out.below hbe.out)
  have ow9 := hbe.out.size
  clear hbe R0_8 C_8 RW_8 RG_8
  -- what came back is marked
  go_wp2_with fail
  refine (markIv _ _ _ 1 w3.heap.size w4.heap.size ff w9 RG_9.out hys (by omega)).mono ?_
  rintro e w10 ⟨rfl, RGm, hbm⟩
  clear RG_9
  have R0_10 := Lib.hid (R0_9.out.butIn hbm.out C_9.out.size (.inl (by omega)))
  have C_10 := Lib.hid (C_9.out.trans (hbm.out.toBelow (by omega) C_9.out.size))
  have RW_10 := Lib.hid (RW_9.out.but hbm.out (by omega))
  have ow10 := hbm.out.size
  have RM_10 := RGm
  clear hbm RGm R0_9 C_9 RW_9
  go_wp2_with fail
  refine (heldIv _ _ _ 1 _ _ w10 RM_10.out hys (by omega)).mono ?_
  rintro e w11 ⟨rfl, hbh⟩
  have R0_11 := Lib.hid (R0_10.out.butIn (ButIn.of hbh.out) C_10.out.size (.inr rfl))
  have C_11 := Lib.hid (C_10.out.trans (hbh.out.mono C_10.out.size))
  have RW_11 := Lib.hid (RW_10.out.below hbh.out)
  have RM_11 := Lib.hid (RM_10.out.below hbh.out)
  have ow11 := hbh.out.size
  clear hbh R0_10 C_10 RW_10 RM_10
  -- once more
  go_wp2_with fail
  refine (toFv A0 z0.length c0 (at0 z0) w11 (R0_11.out.mono C_11.out.size) hn0).mono ?_
  rintro e w12 ⟨Bw12, dw12, rfl, Tw12, hbw12⟩
  have R0_12 := Lib.hid (R0_11.out.butIn (ButIn.of hbw12.out) C_11.out.size (.inr rfl))
  have C_12 := Lib.hid (C_11.out.trans (hbw12.out.mono C_11.out.size))
  have RW_12 := Lib.hid (RW_11.out.below hbw12.out)
  have RM_12 := Lib.hid (RM_11.out.below hbw12.out)
  have Z0_12 := Tw12
  have ow12 := hbw12.out.size
  clear Tw12 hbw12 R0_11 C_11 RW_11 RM_11
  go_wp2_with fail
  refine (HIM.out w12 _ _ Z0_12.out.toRow).mono ?_
  rintro e w13 ⟨Ah, ch, rfl, Tw13, hbw13⟩
  have R0_13 := Lib.hid (R0_12.out.butIn (ButIn.of hbw13.out) C_12.out.size (.inr rfl))
  have C_13 := Lib.hid (C_12.out.trans (hbw13.out.mono C_12.out.size))
  have RW_13 := Lib.hid (RW_12.out.below hbw13.out)
  have RM_13 := Lib.hid (RM_12.out.below hbw13.out)
  have Z0_13 := Lib.hid (Z0_12.out.below hbw13.out)
  have RH_13 := Tw13
  have ow13 := hbw13.out.size
  clear Tw13 hbw13 R0_12 C_12 RW_12 RM_12 Z0_12
  go_wp2_with fail
  refine (eqIv _ _ fn _ _ _ _ _ _ ff w13 RH_13.out RW_13.out hys).mono ?_
  rintro e w14 ⟨rfl, hbe⟩
  have R0_14 := Lib.hid (R0_13.out.butIn (ButIn.of hbe.out) C_13.out.size (.inr rfl))
  have C_14 := Lib.hid (C_13.out.trans (hbe.out.mono C_13.out.size))
  have RW_14 := Lib.hid (RW_13.out.below hbe.out)
  have RM_14 := Lib.hid (RM_13.out.below hbe.out)
  have Z0_14 := Lib.hid (Z0_13.out.below hbe.out)
  have RH_14 := Lib.hid (RH_13.out.below hbe.out)
  have ow14 := hbe.out.size
  clear hbe R0_13 C_13 RW_13 RM_13 Z0_13 RH_13
  go_wp2_with fail
  refine (heldIv _ _ _ 1 _ _ w14 RM_14.out hys (by omega)).mono ?_
  rintro e w15 ⟨rfl, hbh⟩
  have R0_15 := Lib.hid (R0_14.out.butIn (ButIn.of hbh.out) C_14.out.size (.inr rfl))
  have C_15 := Lib.hid (C_14.out.trans (hbh.out.mono C_14.out.size))
  have RW_15 := Lib.hid (RW_14.out.below hbh.out)
  have RM_15 := Lib.hid (RM_14.out.below hbh.out)
  have Z0_15 := Lib.hid (Z0_14.out.below hbh.out)
  have RH_15 := Lib.hid (RH_14.out.below hbh.out)
  have ow15 := hbh.out.size
  clear hbh R0_14 C_14 RW_14 RM_14 Z0_14 RH_14
  go_wp2_with fail
  go_ret
  exact ⟨rfl, C_15.out⟩

end Go.Proofs.Ythhimielelpcoaa
