/-
  What is proved here: the law FnExactCantorSet, as a walk. Conditions: words fit their kinds.
-/
import Derived.Test.YtjnfonjbbbghpaaCan
import Derived.Test.YtjnfonjbbbghpaaLk
namespace Go.Proofs.Ytjnfonjbbbghpaa
open Flt Go.RowKit
set_option linter.unusedVariables false

set_option maxHeartbeats 16000000 in
set_option maxRecDepth 1000000 in
theorem lawCan (dp : Int)  (w : World) :
    Calls Try.prog 10 #[.int .i64 dp] w fun e w' => e = .returned (.bool true) ∧ Below w.heap.size w w' := by
  obtain ⟨f, n, b, hys, hS, hI⟩ := canBoth dp
  have HSP := Lib.hid hS
  have HIM := Lib.hid hI
  have C_0 : Hid (Below w.heap.size w w) := Below.refl _ _
  clear hS hI 
  go_enter Try.func10, Try.ntmps10
  go_wp2_with fail
  refine (HSP.out w).mono ?_
  rintro e w1 ⟨Aw, cw, yw, rfl, tlw, Tw1, hbw1⟩
  have C_1 := Lib.hid (C_0.out.trans (hbw1.out.mono C_0.out.size))
  have RW_1 := Tw1
  have ow1 := hbw1.out.size
  clear Tw1 hbw1 C_0
  go_wp2_with fail
  refine (HIM.out w1).mono ?_
  rintro e w2 ⟨Ag, cg, yg, rfl, tlg, Tw2, hbw2⟩
  have C_2 := Lib.hid (C_1.out.trans (hbw2.out.mono C_1.out.size))
  have RW_2 := Lib.hid (RW_1.out.but (ButIn.of hbw2.out) (.inr (Nat.zero_le _)))
  have RG_2 := Tw2
  have ow2 := hbw2.out.size
  clear Tw2 hbw2 C_1 RW_1
  go_wp2_with fail
  refine (eqR _ _ _ _ _ _ _ _ n _ _ _ w2 RG_2.out RW_2.out tlg.out tlw.out hys).mono ?_
  rintro e w' ⟨rfl, nn, rfl⟩
  have C_3 := Lib.hid (C_2.out.trans ((belowN (n := nn) (Below.refl w2.heap.size w2)).mono C_2.out.size))
  have RW_3 := Lib.hid (RW_2.out.but (ButIn.of (belowN (n := nn) (Below.refl w2.heap.size w2))) (.inr (Nat.zero_le _)))
  have RG_3 := Lib.hid (RG_2.out.but (ButIn.of (belowN (n := nn) (Below.refl w2.heap.size w2))) (.inr (Nat.zero_le _)))
  clear C_2 RW_2 RG_2
  have ow3 : w2.heap.size ≤ (w2.drewN nn).heap.size := Nat.le_refl _
  generalize w2.drewN nn = w3 at *
  -- what came back is marked
  go_wp2_with fail
  refine (markR _ cg w1.heap.size w2.heap.size n yg w3 RG_3.out tlg.out.len hys).mono ?_
  rintro e w4 ⟨rfl, RGm, hbm⟩
  clear RG_3
  have C_4 := Lib.hid (C_3.out.trans (hbm.out.toBelow (by omega) C_3.out.size))
  have RW_4 := Lib.hid (RW_3.out.but hbm.out (by omega))
  have ow4 := hbm.out.size
  have RM_4 := RGm
  clear hbm RGm C_3 RW_3
  go_wp2_with fail
  refine (heldR _ cg _ _ n w4 RM_4.out hys).mono ?_
  rintro e w' ⟨rfl, rfl⟩
  -- once more
  go_wp2_with fail
  refine (HIM.out w4).mono ?_
  rintro e w5 ⟨Ah, ch, yh, rfl, tlh, Tw5, hbw5⟩
  have C_5 := Lib.hid (C_4.out.trans (hbw5.out.mono C_4.out.size))
  have RW_5 := Lib.hid (RW_4.out.but (ButIn.of hbw5.out) (.inr (Nat.zero_le _)))
  have RM_5 := Lib.hid (RM_4.out.but (ButIn.of hbw5.out) (.inr (Nat.zero_le _)))
  have RH_5 := Tw5
  have ow5 := hbw5.out.size
  clear Tw5 hbw5 C_4 RW_4 RM_4
  go_wp2_with fail
  refine (eqR _ _ _ _ _ _ _ _ n _ _ _ w5 RH_5.out RW_5.out tlh.out tlw.out hys).mono ?_
  rintro e w' ⟨rfl, nn, rfl⟩
  have C_6 := Lib.hid (C_5.out.trans ((belowN (n := nn) (Below.refl w5.heap.size w5)).mono C_5.out.size))
  have RW_6 := Lib.hid (RW_5.out.but (ButIn.of (belowN (n := nn) (Below.refl w5.heap.size w5))) (.inr (Nat.zero_le _)))
  have RM_6 := Lib.hid (RM_5.out.but (ButIn.of (belowN (n := nn) (Below.refl w5.heap.size w5))) (.inr (Nat.zero_le _)))
  have RH_6 := Lib.hid (RH_5.out.but (ButIn.of (belowN (n := nn) (Below.refl w5.heap.size w5))) (.inr (Nat.zero_le _)))
  clear C_5 RW_5 RM_5 RH_5
  have ow6 : w5.heap.size ≤ (w5.drewN nn).heap.size := Nat.le_refl _
  generalize w5.drewN nn = w6 at *
  go_wp2_with fail
  refine (heldR _ cg _ _ n w6 RM_6.out hys).mono ?_
  rintro e w' ⟨rfl, rfl⟩
  go_wp2_with fail
  go_ret
  exact ⟨rfl, C_6.out⟩

end Go.Proofs.Ytjnfonjbbbghpaa
