/-
  What is proved here: the law FnExactRankOf, as a walk. Conditions: the lists are ones that a machine can hold.
-/
import Derived.Test.YtnhcmloaanamnaaRk3
import Derived.Test.YtnhcmloaanamnaaLk
import Derived.Test.YtnhcmloaanamnaaLki
namespace Go.Proofs.Ytnhcmloaanamnaa
open Flt Go.RowKit
set_option linter.unusedVariables false

set_option maxHeartbeats 16000000 in
set_option maxRecDepth 1000000 in
theorem lawRaO (A0 : Option Addr) (len0 c0 : Nat) (z0 : List Nat) {w : World} (hl0 : ListF w A0 len0 z0)  :
    Calls Try.prog 3 #[.slice A0 len0 c0] w fun e w' => e = .returned (.bool true) ∧ Below w.heap.size w w' := by
  obtain ⟨hsz0, hrow0, hmax0⟩ := hl0
  subst hsz0
  unfold maxLen at hmax0
  by_cases hbig0 : 1048576 < z0.length
  · clear hrow0
    go_enter Try.func3, Try.ntmps3
    go_wp2
    go_ret
    exact ⟨rfl, Below.refl _ _⟩
  have hn0 : z0.length ≤ 1048576 := by omega
  clear hbig0 hmax0
  obtain ⟨f, n, b, hys, hS, hI⟩ := rankBoth z0 hn0
  have HSP := Lib.hid hS
  have HIM := Lib.hid hI
  have R0_0 : Hid (RowF w w.heap.size A0 z0) := hrow0
  have C_0 : Hid (Below w.heap.size w w) := Below.refl _ _
  clear hS hI hrow0
  go_enter Try.func3, Try.ntmps3
  go_wp2_with fail
  refine (toFR A0 c0 z0 w (R0_0.out.mono C_0.out.size) hn0).mono ?_
  rintro e w1 ⟨Bw1, dw1, rfl, Tw1, hbw1⟩
  have C_1 := Lib.hid (C_0.out.trans (hbw1.out.mono C_0.out.size))
  have R0_1 := Lib.hid (R0_0.out.butIn (ButIn.of hbw1.out) C_0.out.size (.inr rfl))
  have S0_1 := Tw1
  have ow1 := hbw1.out.size
  clear Tw1 hbw1 C_0 R0_0
  go_wp2_with fail
  refine (HSP.out w1 _ _ S0_1.out.toRow).mono ?_
  rintro e w2 ⟨Aw, cw, yw, rfl, tlw, Tw2, hbw2⟩
  have C_2 := Lib.hid (C_1.out.trans (hbw2.out.mono C_1.out.size))
  have R0_2 := Lib.hid (R0_1.out.butIn (ButIn.of hbw2.out) C_1.out.size (.inr rfl))
  have S0_2 := Lib.hid (S0_1.out.but (ButIn.of hbw2.out) (.inr (Nat.zero_le _)))
  have RW_2 := Tw2
  have ow2 := hbw2.out.size
  clear Tw2 hbw2 C_1 R0_1 S0_1
  clear S0_2
  go_wp2_with fail
  refine (toFR A0 c0 z0 w2 (R0_2.out.mono C_2.out.size) hn0).mono ?_
  rintro e w3 ⟨Bw3, dw3, rfl, Tw3, hbw3⟩
  have C_3 := Lib.hid (C_2.out.trans (hbw3.out.mono C_2.out.size))
  have R0_3 := Lib.hid (R0_2.out.butIn (ButIn.of hbw3.out) C_2.out.size (.inr rfl))
  have RW_3 := Lib.hid (RW_2.out.but (ButIn.of hbw3.out) (.inr (Nat.zero_le _)))
  have X0_3 := Tw3
  have ow3 := hbw3.out.size
  clear Tw3 hbw3 C_2 R0_2 RW_2
  go_wp2_with fail
  refine (HIM.out w3 _ _ X0_3.out.toRow).mono ?_
  rintro e w4 ⟨Ag, cg, yg, rfl, tlg, Tw4, hbw4⟩
  have C_4 := Lib.hid (C_3.out.trans (hbw4.out.mono C_3.out.size))
  have R0_4 := Lib.hid (R0_3.out.butIn (ButIn.of hbw4.out) C_3.out.size (.inr rfl))
  have RW_4 := Lib.hid (RW_3.out.but (ButIn.of hbw4.out) (.inr (Nat.zero_le _)))
  have X0_4 := Lib.hid (X0_3.out.but (ButIn.of hbw4.out) (.inr (Nat.zero_le _)))
  have RG_4 := Tw4
  have ow4 := hbw4.out.size
  clear Tw4 hbw4 C_3 R0_3 RW_3 X0_3
  go_wp2_with fail
  refine (eqRI _ _ _ _ _ _ _ _ n _ _ _ w4 RG_4.out RW_4.out tlg.out tlw.out hys).mono ?_
  rintro e w' ⟨rfl, nn, rfl⟩
  have C_5 := Lib.hid (C_4.out.trans ((belowN (n := nn) (Below.refl w4.heap.size w4)).mono C_4.out.size))
  have R0_5 := Lib.hid (R0_4.out.butIn (ButIn.of (belowN (n := nn) (Below.refl w4.heap.size w4))) C_4.out.size (.inr rfl))
  have RW_5 := Lib.hid (RW_4.out.but (ButIn.of (belowN (n := nn) (Below.refl w4.heap.size w4))) (.inr (Nat.zero_le _)))
  have X0_5 := Lib.hid (X0_4.out.but (ButIn.of (belowN (n := nn) (Below.refl w4.heap.size w4))) (.inr (Nat.zero_le _)))
  have RG_5 := Lib.hid (RG_4.out.but (ButIn.of (belowN (n := nn) (Below.refl w4.heap.size w4))) (.inr (Nat.zero_le _)))
  clear C_4 R0_4 RW_4 X0_4 RG_4
  have ow5 : w4.heap.size ≤ (w4.drewN nn).heap.size := Nat.le_refl _
  generalize w4.drewN nn = w5 at *
  -- the copy is as it was
  go_wp2_with fail
  refine (toFR A0 c0 z0 w5 (R0_5.out.mono C_5.out.size) hn0).mono ?_
  rintro e w6 ⟨Bw6, dw6, rfl, Tw6, hbw6⟩
  have C_6 := Lib.hid (C_5.out.trans (hbw6.out.mono C_5.out.size))
  have R0_6 := Lib.hid (R0_5.out.butIn (ButIn.of hbw6.out) C_5.out.size (.inr rfl))
  have RW_6 := Lib.hid (RW_5.out.but (ButIn.of hbw6.out) (.inr (Nat.zero_le _)))
  have X0_6 := Lib.hid (X0_5.out.but (ButIn.of hbw6.out) (.inr (Nat.zero_le _)))
  have RG_6 := Lib.hid (RG_5.out.but (ButIn.of hbw6.out) (.inr (Nat.zero_le _)))
  have Y0_6 := Tw6
  have ow6 := hbw6.out.size
  clear Tw6 hbw6 C_5 R0_5 RW_5 X0_5 RG_5
  go_wp2_with fail
  refine (eqR _ _ _ _ _ _ _ _ z0.length _ _ _ w6 X0_6.out Y0_6.out (Tl.self z0) (Tl.self z0) hn0).mono ?_
  rintro e w' ⟨rfl, nn, rfl⟩
  have C_7 := Lib.hid (C_6.out.trans ((belowN (n := nn) (Below.refl w6.heap.size w6)).mono C_6.out.size))
  have R0_7 := Lib.hid (R0_6.out.butIn (ButIn.of (belowN (n := nn) (Below.refl w6.heap.size w6))) C_6.out.size (.inr rfl))
  have RW_7 := Lib.hid (RW_6.out.but (ButIn.of (belowN (n := nn) (Below.refl w6.heap.size w6))) (.inr (Nat.zero_le _)))
  have X0_7 := Lib.hid (X0_6.out.but (ButIn.of (belowN (n := nn) (Below.refl w6.heap.size w6))) (.inr (Nat.zero_le _)))
  have RG_7 := Lib.hid (RG_6.out.but (ButIn.of (belowN (n := nn) (Below.refl w6.heap.size w6))) (.inr (Nat.zero_le _)))
  have Y0_7 := Lib.hid (Y0_6.out.but (ButIn.of (belowN (n := nn) (Below.refl w6.heap.size w6))) (.inr (Nat.zero_le _)))
  clear C_6 R0_6 RW_6 X0_6 RG_6 Y0_6
  have ow7 : w6.heap.size ≤ (w6.drewN nn).heap.size := Nat.le_refl _
  generalize w6.drewN nn = w7 at *
  clear Y0_7
  go_wp2_with fail
  refine (markR _ dw3 w2.heap.size w3.heap.size _ z0 w7 X0_7.out rfl hn0).mono ?_
  rintro e w8 ⟨rfl, _, hbm⟩
  clear X0_7
  have C_8 := Lib.hid (C_7.out.trans (hbm.out.toBelow (by omega) C_7.out.size))
  have R0_8 := Lib.hid (R0_7.out.butIn hbm.out C_7.out.size (.inl (by omega)))
  have RW_8 := Lib.hid (RW_7.out.but hbm.out (by omega))
  have RG_8 := Lib.hid (RG_7.out.but hbm.out (by omega))
  have ow8 := hbm.out.size
  clear hbm C_7 R0_7 RW_7 RG_7
  go_wp2_with fail
  refine (eqRI _ _ _ _ _ _ _ _ n _ _ _ w8 RG_8.out RW_8.out tlg.out tlw.out hys).mono ?_
  rintro e w' ⟨rfl, nn, rfl⟩
  have C_9 := Lib.hid (C_8.out.trans ((belowN (n := nn) (Below.refl w8.heap.size w8)).mono C_8.out.size))
  have R0_9 := Lib.hid (R0_8.out.butIn (ButIn.of (belowN (n := nn) (Below.refl w8.heap.size w8))) C_8.out.size (.inr rfl))
  have RW_9 := Lib.hid (RW_8.out.but (ButIn.of (belowN (n := nn) (Below.refl w8.heap.size w8))) (.inr (Nat.zero_le _)))
  have RG_9 := Lib.hid (RG_8.out.but (ButIn.of (belowN (n := nn) (Below.refl w8.heap.size w8))) (.inr (Nat.zero_le _)))
  clear C_8 R0_8 RW_8 RG_8
  have ow9 : w8.heap.size ≤ (w8.drewN nn).heap.size := Nat.le_refl _
  generalize w8.drewN nn = w9 at *
  -- what came back is marked
  go_wp2_with fail
  refine (markRI _ cg w3.heap.size w4.heap.size n yg w9 RG_9.out tlg.out.len hys).mono ?_
  rintro e w10 ⟨rfl, RGm, hbm⟩
  clear RG_9
  have C_10 := Lib.hid (C_9.out.trans (hbm.out.toBelow (by omega) C_9.out.size))
  have R0_10 := Lib.hid (R0_9.out.butIn hbm.out C_9.out.size (.inl (by omega)))
  have RW_10 := Lib.hid (RW_9.out.but hbm.out (by omega))
  have ow10 := hbm.out.size
  have RM_10 := RGm
  clear hbm RGm C_9 R0_9 RW_9
  go_wp2_with fail
  refine (heldRI _ cg _ _ n w10 RM_10.out hys).mono ?_
  rintro e w' ⟨rfl, rfl⟩
  -- once more
  go_wp2_with fail
  refine (toFR A0 c0 z0 w10 (R0_10.out.mono C_10.out.size) hn0).mono ?_
  rintro e w11 ⟨Bw11, dw11, rfl, Tw11, hbw11⟩
  have C_11 := Lib.hid (C_10.out.trans (hbw11.out.mono C_10.out.size))
  have R0_11 := Lib.hid (R0_10.out.butIn (ButIn.of hbw11.out) C_10.out.size (.inr rfl))
  have RW_11 := Lib.hid (RW_10.out.but (ButIn.of hbw11.out) (.inr (Nat.zero_le _)))
  have RM_11 := Lib.hid (RM_10.out.but (ButIn.of hbw11.out) (.inr (Nat.zero_le _)))
  have Z0_11 := Tw11
  have ow11 := hbw11.out.size
  clear Tw11 hbw11 C_10 R0_10 RW_10 RM_10
  go_wp2_with fail
  refine (HIM.out w11 _ _ Z0_11.out.toRow).mono ?_
  rintro e w12 ⟨Ah, ch, yh, rfl, tlh, Tw12, hbw12⟩
  have C_12 := Lib.hid (C_11.out.trans (hbw12.out.mono C_11.out.size))
  have R0_12 := Lib.hid (R0_11.out.butIn (ButIn.of hbw12.out) C_11.out.size (.inr rfl))
  have RW_12 := Lib.hid (RW_11.out.but (ButIn.of hbw12.out) (.inr (Nat.zero_le _)))
  have RM_12 := Lib.hid (RM_11.out.but (ButIn.of hbw12.out) (.inr (Nat.zero_le _)))
  have Z0_12 := Lib.hid (Z0_11.out.but (ButIn.of hbw12.out) (.inr (Nat.zero_le _)))
  have RH_12 := Tw12
  have ow12 := hbw12.out.size
  clear Tw12 hbw12 C_11 R0_11 RW_11 RM_11 Z0_11
  go_wp2_with fail
  refine (eqRI _ _ _ _ _ _ _ _ n _ _ _ w12 RH_12.out RW_12.out tlh.out tlw.out hys).mono ?_
  rintro e w' ⟨rfl, nn, rfl⟩
  have C_13 := Lib.hid (C_12.out.trans ((belowN (n := nn) (Below.refl w12.heap.size w12)).mono C_12.out.size))
  have R0_13 := Lib.hid (R0_12.out.butIn (ButIn.of (belowN (n := nn) (Below.refl w12.heap.size w12))) C_12.out.size (.inr rfl))
  have RW_13 := Lib.hid (RW_12.out.but (ButIn.of (belowN (n := nn) (Below.refl w12.heap.size w12))) (.inr (Nat.zero_le _)))
  have RM_13 := Lib.hid (RM_12.out.but (ButIn.of (belowN (n := nn) (Below.refl w12.heap.size w12))) (.inr (Nat.zero_le _)))
  have Z0_13 := Lib.hid (Z0_12.out.but (ButIn.of (belowN (n := nn) (Below.refl w12.heap.size w12))) (.inr (Nat.zero_le _)))
  have RH_13 := Lib.hid (RH_12.out.but (ButIn.of (belowN (n := nn) (Below.refl w12.heap.size w12))) (.inr (Nat.zero_le _)))
  clear C_12 R0_12 RW_12 RM_12 Z0_12 RH_12
  have ow13 : w12.heap.size ≤ (w12.drewN nn).heap.size := Nat.le_refl _
  generalize w12.drewN nn = w13 at *
  go_wp2_with fail
  refine (heldRI _ cg _ _ n w13 RM_13.out hys).mono ?_
  rintro e w' ⟨rfl, rfl⟩
  go_wp2_with fail
  go_ret
  exact ⟨rfl, C_13.out⟩

end Go.Proofs.Ytnhcmloaanamnaa
