/-
  What is proved here: the law FnExactUnpackCells, as a walk. Conditions: words fit their kinds.
-/
import Derived.Test.YtjojhklbikgfoaaUnq
import Derived.Test.YtjojhklbikgfoaaFio
import Derived.Deep.RegionHeld3
import Derived.Test.YtjojhklbikgfoaaLvb
namespace Go.Proofs.Ytjojhklbikgfoaa
open Go.RowKit
set_option linter.unusedVariables false

set_option maxHeartbeats 16000000 in
set_option maxRecDepth 1000000 in
theorem lawUnp (s0 : ByteArray) (hx0 : s0.size ≤ maxLen) (w : World) :
    Calls Try.prog 4 #[.string s0] w fun e w' => e = .returned (.bool true) ∧ Below w.heap.size w w' := by
  unfold maxLen at hx0
  by_cases hbig : 1048576 < s0.size
  · go_enter Try.func4, Try.ntmps4
    go_wp2
    go_ret
    exact ⟨rfl, Below.refl _ _⟩
  have hs0 : s0.size ≤ 1048576 := by omega
  clear hbig
  obtain ⟨b, fn, ff, hys, hS, hI⟩ := unpBoth s0 hs0
  have HSP := Lib.hid hS
  have HIM := Lib.hid hI
  have C_0 : Hid (Below w.heap.size w w) := Below.refl _ _
  clear hS hI 
  go_enter Try.func4, Try.ntmps4
  go_wp2_with fail
  refine (HSP.out w).mono ?_
  rintro e w1 ⟨Aw, cw, rfl, Tw1, hbw1⟩
  have C_1 := Lib.hid (C_0.out.trans (hbw1.out.mono C_0.out.size))
  have RW_1 := Tw1
  have ow1 := hbw1.out.size
  clear Tw1 hbw1 C_0
  go_wp2_with fail
  refine (HIM.out w1).mono ?_
  rintro e w2 ⟨Ag, cg, rfl, Tw2, hbw2⟩
  have C_2 := Lib.hid (C_1.out.trans (hbw2.out.mono C_1.out.size))
  have RW_2 := Lib.hid (RW_1.out.below hbw2.out)
  have RG_2 := Tw2
  have ow2 := hbw2.out.size
  clear Tw2 hbw2 C_1 RW_1
  go_wp2_with fail
  refine (eqBv _ _ fn _ _ _ _ _ _ ff w2 RG_2.out RW_2.out hys).mono ?_
  rintro e w3 ⟨rfl, hbe⟩
  have C_3 := Lib.hid (C_2.out.trans (hbe.out.mono C_2.out.size))
  have RW_3 := Lib.hid (RW_2.out.below hbe.out)
  have RG_3 := Lib.hid (RG_2.out.below hbe.out)
  have ow3 := hbe.out.size
  clear hbe C_2 RW_2 RG_2
  -- what came back is marked
  go_wp2_with fail
  refine (markB _ _ _ 1 w1.heap.size w2.heap.size ff w3 RG_3.out hys (by omega)).mono ?_
  rintro e w4 ⟨rfl, RGm, hbm⟩
  clear RG_3
  have C_4 := Lib.hid (C_3.out.trans (hbm.out.toBelow (by omega) C_3.out.size))
  have RW_4 := Lib.hid (RW_3.out.but hbm.out (by omega))
  have ow4 := hbm.out.size
  have RM_4 := RGm
  clear hbm RGm C_3 RW_3
  go_wp2_with fail
  refine (heldBv _ _ _ 1 _ _ w4 RM_4.out hys (by omega)).mono ?_
  rintro e w5 ⟨rfl, hbh⟩
  have C_5 := Lib.hid (C_4.out.trans (hbh.out.mono C_4.out.size))
  have RW_5 := Lib.hid (RW_4.out.below hbh.out)
  have RM_5 := Lib.hid (RM_4.out.below hbh.out)
  have ow5 := hbh.out.size
  clear hbh C_4 RW_4 RM_4
  -- once more
  go_wp2_with fail
  refine (HIM.out w5).mono ?_
  rintro e w6 ⟨Ah, ch, rfl, Tw6, hbw6⟩
  have C_6 := Lib.hid (C_5.out.trans (hbw6.out.mono C_5.out.size))
  have RW_6 := Lib.hid (RW_5.out.below hbw6.out)
  have RM_6 := Lib.hid (RM_5.out.below hbw6.out)
  have RH_6 := Tw6
  have ow6 := hbw6.out.size
  clear Tw6 hbw6 C_5 RW_5 RM_5
  go_wp2_with fail
  refine (eqBv _ _ fn _ _ _ _ _ _ ff w6 RH_6.out RW_6.out hys).mono ?_
  rintro e w7 ⟨rfl, hbe⟩
  have C_7 := Lib.hid (C_6.out.trans (hbe.out.mono C_6.out.size))
  have RW_7 := Lib.hid (RW_6.out.below hbe.out)
  have RM_7 := Lib.hid (RM_6.out.below hbe.out)
  have RH_7 := Lib.hid (RH_6.out.below hbe.out)
  have ow7 := hbe.out.size
  clear hbe C_6 RW_6 RM_6 RH_6
  go_wp2_with fail
  refine (heldBv _ _ _ 1 _ _ w7 RM_7.out hys (by omega)).mono ?_
  rintro e w8 ⟨rfl, hbh⟩
  have C_8 := Lib.hid (C_7.out.trans (hbh.out.mono C_7.out.size))
  have RW_8 := Lib.hid (RW_7.out.below hbh.out)
  have RM_8 := Lib.hid (RM_7.out.below hbh.out)
  have RH_8 := Lib.hid (RH_7.out.below hbh.out)
  have ow8 := hbh.out.size
  clear hbh C_7 RW_7 RM_7 RH_7
  go_wp2_with fail
  go_ret
  exact ⟨rfl, C_8.out⟩

end Go.Proofs.Ytjojhklbikgfoaa
