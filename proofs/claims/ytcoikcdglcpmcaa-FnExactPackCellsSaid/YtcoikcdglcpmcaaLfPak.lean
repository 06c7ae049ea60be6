/-
  What is proved here: the law FnExactPackCells, as a walk. Conditions: the fields and lists are ones that a machine can hold.
-/
import Derived.Test.YtcoikcdglcpmcaaFpn
import Derived.Test.YtcoikcdglcpmcaaFio
import Derived.Deep.RegionHeld3
import Derived.Test.YtcoikcdglcpmcaaLvb
namespace Go.Proofs.Ytcoikcdglcpmcaa
open Go.RowKit
set_option linter.unusedVariables false

set_option maxHeartbeats 16000000 in
set_option maxRecDepth 1000000 in
theorem lawPak (A0 : Option Addr) (n0 c0 : Nat) (p0 : Nat → Bool) {w : World} (hl0 : ListB w A0 n0 p0)  :
    Calls Try.prog 10 #[.slice A0 n0 c0] w fun e w' => e = .returned (.bool true) ∧ Below w.heap.size w w' := by
  obtain ⟨hrow0, hN0⟩ := hl0
  by_cases hbig0 : 1048576 < n0
  · clear hrow0
    have HB0 := Lib.hid (Below.refl w.heap.size w)
    go_enter Try.func10, Try.ntmps10
    go_wp2
    go_ret
    exact ⟨rfl, HB0.out⟩
  have hn0 : n0 ≤ 1048576 := by omega
  clear hbig0
  obtain ⟨s, b, hS, hI⟩ := pakBoth n0 p0 hn0
  have HSP := Lib.hid hS
  have HIM := Lib.hid hI
  have R0_0 : Hid (RowV w w.heap.size A0 n0 (bo p0)) := hrow0
  have C_0 : Hid (Below w.heap.size w w) := Below.refl _ _
  clear hS hI hrow0
  go_enter Try.func10, Try.ntmps10
  go_wp2_with fail
  refine (toBc A0 n0 c0 p0 w (R0_0.out.mono C_0.out.size) hn0).mono ?_
  rintro e w1 ⟨Bw1, dw1, rfl, hd_S0, Tw1, hbw1⟩
  have R0_1 := Lib.hid (R0_0.out.butIn (ButIn.of hbw1.out) C_0.out.size (.inr rfl))
  have C_1 := Lib.hid (C_0.out.trans (hbw1.out.mono C_0.out.size))
  have S0_1 := Tw1
  have ow1 := hbw1.out.size
  clear Tw1 hbw1 R0_0 C_0
  go_wp2_with fail
  refine (HSP.out w1 _ _ S0_1.out.toRow hd_S0).mono ?_
  rintro e w2 ⟨rfl, hbw2⟩
  have R0_2 := Lib.hid (R0_1.out.butIn (ButIn.of hbw2.out) C_1.out.size (.inr rfl))
  have C_2 := Lib.hid (C_1.out.trans (hbw2.out.mono C_1.out.size))
  have S0_2 := Lib.hid (S0_1.out.below hbw2.out)
  have ow2 := hbw2.out.size
  clear hbw2 R0_1 C_1 S0_1
  clear S0_2
  go_wp2_with fail
  refine (toBc A0 n0 c0 p0 w2 (R0_2.out.mono C_2.out.size) hn0).mono ?_
  rintro e w3 ⟨Bw3, dw3, rfl, hd_X0, Tw3, hbw3⟩
  have R0_3 := Lib.hid (R0_2.out.butIn (ButIn.of hbw3.out) C_2.out.size (.inr rfl))
  have C_3 := Lib.hid (C_2.out.trans (hbw3.out.mono C_2.out.size))
  have X0_3 := Tw3
  have ow3 := hbw3.out.size
  clear Tw3 hbw3 R0_2 C_2
  go_wp2_with fail
  refine (HIM.out w3 _ _ X0_3.out.toRow hd_X0).mono ?_
  rintro e w4 ⟨rfl, hbw4⟩
  have R0_4 := Lib.hid (R0_3.out.butIn (ButIn.of hbw4.out) C_3.out.size (.inr rfl))
  have C_4 := Lib.hid (C_3.out.trans (hbw4.out.mono C_3.out.size))
  have X0_4 := Lib.hid (X0_3.out.below hbw4.out)
  have ow4 := hbw4.out.size
  clear hbw4 R0_3 C_3 X0_3
  -- the copy is as it was
  go_wp2_with fail
  refine (toBc A0 n0 c0 p0 w4 (R0_4.out.mono C_4.out.size) hn0).mono ?_
  rintro e w5 ⟨Bw5, dw5, rfl, hd_Y0, Tw5, hbw5⟩
  have R0_5 := Lib.hid (R0_4.out.butIn (ButIn.of hbw5.out) C_4.out.size (.inr rfl))
  have C_5 := Lib.hid (C_4.out.trans (hbw5.out.mono C_4.out.size))
  have X0_5 := Lib.hid (X0_4.out.below hbw5.out)
  have Y0_5 := Tw5
  have ow5 := hbw5.out.size
  clear Tw5 hbw5 R0_4 C_4 X0_4
  go_wp2_with fail
  refine (eqBv _ _ n0 _ _ _ _ _ _ p0 w5 X0_5.out Y0_5.out hn0).mono ?_
  rintro e w6 ⟨rfl, hbe⟩
  have R0_6 := Lib.hid (R0_5.out.butIn (ButIn.of hbe.out) C_5.out.size (.inr rfl))
  have C_6 := Lib.hid (C_5.out.trans (hbe.out.mono C_5.out.size))
  have X0_6 := Lib.hid (X0_5.out.below hbe.out)
  have Y0_6 := Lib.hid (Y0_5.out.below hbe.out)
  have ow6 := hbe.out.size
  clear hbe R0_5 C_5 X0_5 Y0_5
  clear Y0_6
  go_wp2_with fail
  go_ret
  exact ⟨rfl, C_6.out⟩

end Go.Proofs.Ytcoikcdglcpmcaa
