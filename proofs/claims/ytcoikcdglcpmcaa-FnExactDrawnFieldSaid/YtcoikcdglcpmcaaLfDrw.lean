/-
  What is proved here: the law FnExactDrawnField, as a walk. Conditions: words fit their kinds.
-/
import Derived.Test.YtcoikcdglcpmcaaFdr
import Derived.Test.YtcoikcdglcpmcaaFio
import Derived.Deep.RegionHeld3
namespace Go.Proofs.Ytcoikcdglcpmcaa
open Go.RowKit
set_option linter.unusedVariables false

set_option maxHeartbeats 16000000 in
set_option maxRecDepth 1000000 in
theorem lawDrw (wd : Int) (hg : Int) (sh : Nat) (sd : Int)  (w : World) :
    Calls Try.prog 8 #[.int .i64 wd, .int .i64 hg, .float .f32 sh, .int .i64 sd] w fun e w' => e = .returned (.bool true) ∧ Below w.heap.size w w' := by
  obtain ⟨sq, b, fx, fy, fn, ff, hys, hS, hI⟩ := drwBoth wd hg sh sd
  have HSP := Lib.hid hS
  have HIM := Lib.hid hI
  have C_0 : Hid (Below w.heap.size w w) := Below.refl _ _
  clear hS hI 
  go_enter Try.func8, Try.ntmps8
  go_wp2_with fail
  refine (HSP.out w).mono ?_
  rintro e w1 ⟨Aw, cw, rfl, Tw1, hbw1⟩
  have C_1 := Lib.hid (C_0.out.trans (hbw1.out.mono C_0.out.size))
  have RW_1 := Tw1
  have ow1 := hbw1.out.size
  clear Tw1 hbw1 C_0
  have hbA := below_var w1 fx fy Aw fn cw 27
  have C_2 := Lib.hid (C_1.out.trans (hbA.mono C_1.out.size))
  have RW_2 := Lib.hid (RW_1.out.below hbA)
  have Vw_2 := Lib.hid (varT_new w1 fx fy Aw fn cw 27)
  have ow2 : w1.heap.size < (w1.alloc (.cells #[.int .i64 fx, .int .i64 fy, .slice Aw fn cw] 27)).heap.size := Vw_2.out.lt
  clear hbA C_1 RW_1
  go_wp2_with fail
  generalize w1.alloc (.cells #[.int .i64 fx, .int .i64 fy, .slice Aw fn cw] 27) = w2 at *
  refine (HIM.out w2).mono ?_
  rintro e w3 ⟨Ag, cg, rfl, Tw3, hbw3⟩
  have C_3 := Lib.hid (C_2.out.trans (hbw3.out.mono C_2.out.size))
  have RW_3 := Lib.hid (RW_2.out.below hbw3.out)
  have Vw_3 := Lib.hid (Vw_2.out.below hbw3.out)
  have RG_3 := Tw3
  have ow3 := hbw3.out.size
  clear Tw3 hbw3 C_2 RW_2 Vw_2
  have Vwc0 := Vw_3.out.c0
  have Vwc1 := Vw_3.out.c1
  have Vwc2 := Vw_3.out.c2
  have Vwlt := Vw_3.out.lt
  have hbA := below_var w3 fx fy Ag fn cg 27
  have C_4 := Lib.hid (C_3.out.trans (hbA.mono C_3.out.size))
  have RW_4 := Lib.hid (RW_3.out.below hbA)
  have Vw_4 := Lib.hid (Vw_3.out.below hbA)
  have RG_4 := Lib.hid (RG_3.out.below hbA)
  have Vg_4 := Lib.hid (varT_new w3 fx fy Ag fn cg 27)
  have ow4 : w3.heap.size < (w3.alloc (.cells #[.int .i64 fx, .int .i64 fy, .slice Ag fn cg] 27)).heap.size := Vg_4.out.lt
  clear hbA C_3 RW_3 Vw_3 RG_3
  go_wp2_with fail
  clear Vwc0 Vwc1 Vwc2 Vwlt
  generalize w3.alloc (.cells #[.int .i64 fx, .int .i64 fy, .slice Ag fn cg] 27) = w4 at *
  refine (eqFie fx fy _ _ fn _ _ _ _ _ _ ff w4 RG_4.out RW_4.out hys).mono ?_
  rintro e w5 ⟨rfl, hbe⟩
  have C_5 := Lib.hid (C_4.out.trans (hbe.out.mono C_4.out.size))
  have RW_5 := Lib.hid (RW_4.out.below hbe.out)
  have Vw_5 := Lib.hid (Vw_4.out.below hbe.out)
  have RG_5 := Lib.hid (RG_4.out.below hbe.out)
  have Vg_5 := Lib.hid (Vg_4.out.below hbe.out)
  have ow5 := hbe.out.size
  clear hbe C_4 RW_4 Vw_4 RG_4 Vg_4
  -- what came back is marked
  have Vgc0 := Vg_5.out.c0
  have Vgc1 := Vg_5.out.c1
  have Vgc2 := Vg_5.out.c2
  have Vglt := Vg_5.out.lt
  go_wp2_with fail
  clear Vgc0 Vgc1 Vgc2 Vglt
  refine (markFie _ _ _ _ _ 1 w2.heap.size w3.heap.size ff w5 RG_5.out hys (by omega)).mono ?_
  rintro e w6 ⟨rfl, RGm, hbm⟩
  clear RG_5
  have C_6 := Lib.hid (C_5.out.trans (hbm.out.toBelow (by omega) C_5.out.size))
  have RW_6 := Lib.hid (RW_5.out.but hbm.out (by omega))
  have Vw_6 := Lib.hid (Vw_5.out.but hbm.out (by omega))
  have Vg_6 := Lib.hid (Vg_5.out.but hbm.out (by omega))
  have ow6 := hbm.out.size
  have RM_6 := RGm
  clear hbm RGm C_5 RW_5 Vw_5 Vg_5
  have Vgc0 := Vg_6.out.c0
  have Vgc1 := Vg_6.out.c1
  have Vgc2 := Vg_6.out.c2
  have Vglt := Vg_6.out.lt
  go_wp2_with fail
  clear Vgc0 Vgc1 Vgc2 Vglt
  refine (heldFie _ _ _ _ _ 1 _ _ w6 RM_6.out hys (by omega)).mono ?_
  rintro e w7 ⟨rfl, hbh⟩
  have C_7 := Lib.hid (C_6.out.trans (hbh.out.mono C_6.out.size))
  have RW_7 := Lib.hid (RW_6.out.below hbh.out)
  have Vw_7 := Lib.hid (Vw_6.out.below hbh.out)
  have Vg_7 := Lib.hid (Vg_6.out.below hbh.out)
  have RM_7 := Lib.hid (RM_6.out.below hbh.out)
  have ow7 := hbh.out.size
  clear hbh C_6 RW_6 Vw_6 Vg_6 RM_6
  -- once more
  go_wp2_with fail
  refine (HIM.out w7).mono ?_
  rintro e w8 ⟨Ah, ch, rfl, Tw8, hbw8⟩
  have C_8 := Lib.hid (C_7.out.trans (hbw8.out.mono C_7.out.size))
  have RW_8 := Lib.hid (RW_7.out.below hbw8.out)
  have Vw_8 := Lib.hid (Vw_7.out.below hbw8.out)
  have Vg_8 := Lib.hid (Vg_7.out.below hbw8.out)
  have RM_8 := Lib.hid (RM_7.out.below hbw8.out)
  have RH_8 := Tw8
  have ow8 := hbw8.out.size
  clear Tw8 hbw8 C_7 RW_7 Vw_7 Vg_7 RM_7
  have Vwc0 := Vw_8.out.c0
  have Vwc1 := Vw_8.out.c1
  have Vwc2 := Vw_8.out.c2
  have Vwlt := Vw_8.out.lt
  have hbA := below_var w8 fx fy Ah fn ch 27
  have C_9 := Lib.hid (C_8.out.trans (hbA.mono C_8.out.size))
  have RW_9 := Lib.hid (RW_8.out.below hbA)
  have Vw_9 := Lib.hid (Vw_8.out.below hbA)
  have Vg_9 := Lib.hid (Vg_8.out.below hbA)
  have RM_9 := Lib.hid (RM_8.out.below hbA)
  have RH_9 := Lib.hid (RH_8.out.below hbA)
  have Vh_9 := Lib.hid (varT_new w8 fx fy Ah fn ch 27)
  have ow9 : w8.heap.size < (w8.alloc (.cells #[.int .i64 fx, .int .i64 fy, .slice Ah fn ch] 27)).heap.size := Vh_9.out.lt
  clear hbA C_8 RW_8 Vw_8 Vg_8 RM_8 RH_8
  go_wp2_with fail
  clear Vwc0 Vwc1 Vwc2 Vwlt
  generalize w8.alloc (.cells #[.int .i64 fx, .int .i64 fy, .slice Ah fn ch] 27) = w9 at *
  refine (eqFie fx fy _ _ fn _ _ _ _ _ _ ff w9 RH_9.out RW_9.out hys).mono ?_
  rintro e w10 ⟨rfl, hbe⟩
  have C_10 := Lib.hid (C_9.out.trans (hbe.out.mono C_9.out.size))
  have RW_10 := Lib.hid (RW_9.out.below hbe.out)
  have Vw_10 := Lib.hid (Vw_9.out.below hbe.out)
  have Vg_10 := Lib.hid (Vg_9.out.below hbe.out)
  have RM_10 := Lib.hid (RM_9.out.below hbe.out)
  have RH_10 := Lib.hid (RH_9.out.below hbe.out)
  have Vh_10 := Lib.hid (Vh_9.out.below hbe.out)
  have ow10 := hbe.out.size
  clear hbe C_9 RW_9 Vw_9 Vg_9 RM_9 RH_9 Vh_9
  have Vgc0 := Vg_10.out.c0
  have Vgc1 := Vg_10.out.c1
  have Vgc2 := Vg_10.out.c2
  have Vglt := Vg_10.out.lt
  go_wp2_with fail
  clear Vgc0 Vgc1 Vgc2 Vglt
  refine (heldFie _ _ _ _ _ 1 _ _ w10 RM_10.out hys (by omega)).mono ?_
  rintro e w11 ⟨rfl, hbh⟩
  have C_11 := Lib.hid (C_10.out.trans (hbh.out.mono C_10.out.size))
  have RW_11 := Lib.hid (RW_10.out.below hbh.out)
  have Vw_11 := Lib.hid (Vw_10.out.below hbh.out)
  have Vg_11 := Lib.hid (Vg_10.out.below hbh.out)
  have RM_11 := Lib.hid (RM_10.out.below hbh.out)
  have RH_11 := Lib.hid (RH_10.out.below hbh.out)
  have Vh_11 := Lib.hid (Vh_10.out.below hbh.out)
  have ow11 := hbh.out.size
  clear hbh C_10 RW_10 Vw_10 Vg_10 RM_10 RH_10 Vh_10
  go_wp2_with fail
  go_ret
  exact ⟨rfl, C_11.out⟩

end Go.Proofs.Ytcoikcdglcpmcaa
