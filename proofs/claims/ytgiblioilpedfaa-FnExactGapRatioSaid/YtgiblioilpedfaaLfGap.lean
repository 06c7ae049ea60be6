/-
  What is proved here: the law FnExactGapRatio, as a walk. Conditions: the fields and lists are ones that a machine can hold.
-/
import Derived.Test.YtgiblioilpedfaaGas
import Derived.Test.YtgiblioilpedfaaFio
import Derived.Deep.RegionHeld3
import Derived.Test.YtgiblioilpedfaaLvi
namespace Go.Proofs.Ytgiblioilpedfaa
open Flt Go.RowKit
set_option linter.unusedVariables false

set_option maxHeartbeats 16000000 in
set_option maxRecDepth 1000000 in
theorem lawGap (A0 : Option Addr) (n0 c0 : Nat) (z0 : List Int) {w : World} (hl0 : ListI w A0 n0 z0)  :
    Calls Try.prog 14 #[.slice A0 n0 c0] w fun e w' => e = .returned (.bool true) ∧ Below w.heap.size w w' := by
  obtain ⟨hsz0, hrowi0, hmax0⟩ := hl0
  subst hsz0
  have hN0 : z0.length ≤ 9223372036854775807 := by unfold maxLen at hmax0; omega
  have hrow0 : RowV w w.heap.size A0 z0.length (iv (atI z0)) := hrowi0
  clear hrowi0 hmax0
  by_cases hbig0 : 1048576 < z0.length
  · clear hrow0
    have HB0 := Lib.hid (Below.refl w.heap.size w)
    go_enter Try.func14, Try.ntmps14
    go_wp2
    go_ret
    exact ⟨rfl, HB0.out⟩
  have hn0 : z0.length ≤ 1048576 := by omega
  clear hbig0
  obtain ⟨gv, b, hS, hI⟩ := gapBoth z0 hn0
  have HSP := Lib.hid hS
  have HIM := Lib.hid hI
  have R0_0 : Hid (RowV w w.heap.size A0 z0.length (iv (atI z0))) := hrow0
  have C_0 : Hid (Below w.heap.size w w) := Below.refl _ _
  clear hS hI hrow0
  go_enter Try.func14, Try.ntmps14
  go_wp2_with fail
  refine (toIv A0 z0.length c0 (atI z0) w (R0_0.out.mono C_0.out.size) hn0).mono ?_
  rintro e w1 ⟨Bw1, dw1, rfl, Tw1, hbw1⟩
  have R0_1 := Lib.hid (R0_0.out.butIn (ButIn.of hbw1.out) C_0.out.size (.inr rfl))
  have C_1 := Lib.hid (C_0.out.trans (hbw1.out.mono C_0.out.size))
  have S0_1 := Tw1
  have ow1 := hbw1.out.size
  clear Tw1 hbw1 R0_0 C_0
  go_wp2_with fail
  refine (HSP.out w1 _ _ S0_1.out.toRow).mono ?_
  rintro e w2 ⟨qw, rfl, hww, hcw, hbw2⟩
  have R0_2 := Lib.hid (R0_1.out.butIn (ButIn.of hbw2.out) C_1.out.size (.inr rfl))
  have C_2 := Lib.hid (C_1.out.trans (hbw2.out.mono C_1.out.size))
  have S0_2 := Lib.hid (S0_1.out.below hbw2.out)
  have ow2 := hbw2.out.size
  clear hbw2 R0_1 C_1 S0_1
  clear S0_2
  go_wp2_with fail
  refine (toIv A0 z0.length c0 (atI z0) w2 (R0_2.out.mono C_2.out.size) hn0).mono ?_
  rintro e w3 ⟨Bw3, dw3, rfl, Tw3, hbw3⟩
  have R0_3 := Lib.hid (R0_2.out.butIn (ButIn.of hbw3.out) C_2.out.size (.inr rfl))
  have C_3 := Lib.hid (C_2.out.trans (hbw3.out.mono C_2.out.size))
  have X0_3 := Tw3
  have ow3 := hbw3.out.size
  clear Tw3 hbw3 R0_2 C_2
  go_wp2_with fail
  refine (HIM.out w3 _ _ X0_3.out.toRow).mono ?_
  rintro e w4 ⟨qg, rfl, hwg, hcg, hbw4⟩
  have R0_4 := Lib.hid (R0_3.out.butIn (ButIn.of hbw4.out) C_3.out.size (.inr rfl))
  have C_4 := Lib.hid (C_3.out.trans (hbw4.out.mono C_3.out.size))
  have X0_4 := Lib.hid (X0_3.out.below hbw4.out)
  have ow4 := hbw4.out.size
  clear hbw4 R0_3 C_3 X0_3
  go_wp2_with (first | (go_at_call 36; refine (sameFloat_any _ _ (wid_eq2 (by assumption) (by assumption) (by assumption) (by assumption)) _).mono ?_; rintro e w' ⟨rfl, n3, rfl⟩) | ((with_reducible refine upon_wid ?_ ?_ ?_); rotate_left 2; intro _ _ _ _; rotate_left 1; kernel_rfl; kernel_rfl))
  generalize _ + n3 = m
  have R0_5 := Lib.hid (R0_4.out.butIn (ButIn.of (belowN (n := m) (Below.refl w4.heap.size w4))) C_4.out.size (.inr rfl))
  have C_5 := Lib.hid (C_4.out.trans ((belowN (n := m) (Below.refl w4.heap.size w4)).mono C_4.out.size))
  have X0_5 := Lib.hid (X0_4.out.below (belowN (n := m) (Below.refl w4.heap.size w4)))
  clear R0_4 C_4 X0_4
  have ow5 : w4.heap.size ≤ (w4.drewN m).heap.size := Nat.le_refl _
  generalize w4.drewN m = w5 at *
  -- the copy is as it was
  go_wp2_with fail
  refine (toIv A0 z0.length c0 (atI z0) w5 (R0_5.out.mono C_5.out.size) hn0).mono ?_
  rintro e w6 ⟨Bw6, dw6, rfl, Tw6, hbw6⟩
  have R0_6 := Lib.hid (R0_5.out.butIn (ButIn.of hbw6.out) C_5.out.size (.inr rfl))
  have C_6 := Lib.hid (C_5.out.trans (hbw6.out.mono C_5.out.size))
  have X0_6 := Lib.hid (X0_5.out.below hbw6.out)
  have Y0_6 := Tw6
  have ow6 := hbw6.out.size
  clear Tw6 hbw6 R0_5 C_5 X0_5
  go_wp2_with fail
  refine (eqIv _ _ z0.length _ _ _ _ _ _ (atI z0) w6 X0_6.out Y0_6.out hn0).mono ?_
  rintro e w7 ⟨rfl, hbe⟩
  have R0_7 := Lib.hid (R0_6.out.butIn (ButIn.of hbe.out) C_6.out.size (.inr rfl))
  have C_7 := Lib.hid (C_6.out.trans (hbe.out.mono C_6.out.size))
  have X0_7 := Lib.hid (X0_6.out.below hbe.out)
  have Y0_7 := Lib.hid (Y0_6.out.below hbe.out)
  have ow7 := hbe.out.size
  clear hbe R0_6 C_6 X0_6 Y0_6
  clear Y0_7
  go_wp2_with fail
  go_ret
  exact ⟨rfl, C_7.out⟩

end Go.Proofs.Ytgiblioilpedfaa
