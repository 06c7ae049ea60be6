/-
  What is proved here: the law FnExactMemorySlope, as a walk. Conditions: the lists are ones that a machine can hold.
-/
import Derived.Test.YthhimielelpcoaaMss
import Derived.Test.YthhimielelpcoaaLk
import Derived.Test.YthhimielelpcoaaLki
namespace Go.Proofs.Ythhimielelpcoaa
open Flt Go.RowKit
set_option linter.unusedVariables false

set_option maxHeartbeats 16000000 in
set_option maxRecDepth 1000000 in
theorem lawMeS (A0 : Option Addr) (len0 c0 : Nat) (z0 : List Nat) (A1 : Option Addr) (len1 c1 : Nat) (z1 : List Int) {w : World} (hl0 : ListF w A0 len0 z0) (hl1 : ListI w A1 len1 z1)  :
    Calls Try.prog 5 #[.slice A0 len0 c0, .slice A1 len1 c1] w fun e w' => e = .returned (.bool true) ∧ Below w.heap.size w w' := by
  obtain ⟨hsz0, hrow0, hmax0⟩ := hl0
  subst hsz0
  unfold maxLen at hmax0
  obtain ⟨hsz1, hrow1, hmax1⟩ := hl1
  subst hsz1
  unfold maxLen at hmax1
  by_cases hbig0 : 1048576 < z0.length
  · clear hrow0 hrow1
    go_enter Try.func5, Try.ntmps5
    go_wp2
    go_ret
    exact ⟨rfl, Below.refl _ _⟩
  have hn0 : z0.length ≤ 1048576 := by omega
  clear hbig0 hmax0
  by_cases hbig1 : 1048576 < z1.length
  · clear hrow0 hrow1
    go_enter Try.func5, Try.ntmps5
    go_wp2
    go_ret
    exact ⟨rfl, Below.refl _ _⟩
  have hn1 : z1.length ≤ 1048576 := by omega
  clear hbig1 hmax1
  obtain ⟨cc, b, hS, hI⟩ := mesBoth z0 z1 hn0 hn1
  have HSP := Lib.hid hS
  have HIM := Lib.hid hI
  have R0_0 : Hid (RowF w w.heap.size A0 z0) := hrow0
  have R1_0 : Hid (RowI w w.heap.size A1 z1) := hrow1
  have C_0 : Hid (Below w.heap.size w w) := Below.refl _ _
  clear hS hI hrow0 hrow1
  go_enter Try.func5, Try.ntmps5
  go_wp2_with fail
  refine (toFRc A0 c0 z0 w (R0_0.out.mono C_0.out.size) hn0).mono ?_
  rintro e w1 ⟨Bw1, dw1, rfl, Kw1, Tw1, hbw1⟩
  have C_1 := Lib.hid (C_0.out.trans (hbw1.out.mono C_0.out.size))
  have R0_1 := Lib.hid (R0_0.out.butIn (ButIn.of hbw1.out) C_0.out.size (.inr rfl))
  have R1_1 := Lib.hid (R1_0.out.butIn (ButIn.of hbw1.out) C_0.out.size (.inr rfl))
  have S0_1 := Tw1
  have ow1 := hbw1.out.size
  clear Tw1 hbw1 C_0 R0_0 R1_0
  go_wp2_with fail
  refine (toIR A1 c1 z1 w1 (R1_1.out.mono C_1.out.size) hn1).mono ?_
  rintro e w2 ⟨Bw2, dw2, rfl, Tw2, hbw2⟩
  have C_2 := Lib.hid (C_1.out.trans (hbw2.out.mono C_1.out.size))
  have R0_2 := Lib.hid (R0_1.out.butIn (ButIn.of hbw2.out) C_1.out.size (.inr rfl))
  have R1_2 := Lib.hid (R1_1.out.butIn (ButIn.of hbw2.out) C_1.out.size (.inr rfl))
  have S0_2 := Lib.hid (S0_1.out.but (ButIn.of hbw2.out) (.inr (Nat.zero_le _)))
  have S1_2 := Tw2
  have ow2 := hbw2.out.size
  clear Tw2 hbw2 C_1 R0_1 R1_1 S0_1
  go_wp2_with fail
  refine (HSP.out w2 _ _ _ _ S0_2.out.toRow Kw1.out S1_2.out.toRow).mono ?_
  rintro e w3 ⟨fw, rfl, hcw, hbw3⟩
  have C_3 := Lib.hid (C_2.out.trans (hbw3.out.mono C_2.out.size))
  have R0_3 := Lib.hid (R0_2.out.butIn (ButIn.of hbw3.out) C_2.out.size (.inr rfl))
  have R1_3 := Lib.hid (R1_2.out.butIn (ButIn.of hbw3.out) C_2.out.size (.inr rfl))
  have S0_3 := Lib.hid (S0_2.out.but (ButIn.of hbw3.out) (.inr (Nat.zero_le _)))
  have S1_3 := Lib.hid (S1_2.out.but (ButIn.of hbw3.out) (.inr (Nat.zero_le _)))
  have ow3 := hbw3.out.size
  clear hbw3 C_2 R0_2 R1_2 S0_2 S1_2
  clear S0_3
  clear S1_3
  go_wp2_with fail
  refine (toFRc A0 c0 z0 w3 (R0_3.out.mono C_3.out.size) hn0).mono ?_
  rintro e w4 ⟨Bw4, dw4, rfl, Kw4, Tw4, hbw4⟩
  have C_4 := Lib.hid (C_3.out.trans (hbw4.out.mono C_3.out.size))
  have R0_4 := Lib.hid (R0_3.out.butIn (ButIn.of hbw4.out) C_3.out.size (.inr rfl))
  have R1_4 := Lib.hid (R1_3.out.butIn (ButIn.of hbw4.out) C_3.out.size (.inr rfl))
  have X0_4 := Tw4
  have ow4 := hbw4.out.size
  clear Tw4 hbw4 C_3 R0_3 R1_3
  go_wp2_with fail
  refine (toIR A1 c1 z1 w4 (R1_4.out.mono C_4.out.size) hn1).mono ?_
  rintro e w5 ⟨Bw5, dw5, rfl, Tw5, hbw5⟩
  have C_5 := Lib.hid (C_4.out.trans (hbw5.out.mono C_4.out.size))
  have R0_5 := Lib.hid (R0_4.out.butIn (ButIn.of hbw5.out) C_4.out.size (.inr rfl))
  have R1_5 := Lib.hid (R1_4.out.butIn (ButIn.of hbw5.out) C_4.out.size (.inr rfl))
  have X0_5 := Lib.hid (X0_4.out.but (ButIn.of hbw5.out) (.inr (Nat.zero_le _)))
  have X1_5 := Tw5
  have ow5 := hbw5.out.size
  clear Tw5 hbw5 C_4 R0_4 R1_4 X0_4
  go_wp2_with fail
  refine (HIM.out w5 _ _ _ _ X0_5.out.toRow Kw4.out X1_5.out.toRow).mono ?_
  rintro e w6 ⟨fg, rfl, hcg, hbw6⟩
  have C_6 := Lib.hid (C_5.out.trans (hbw6.out.mono C_5.out.size))
  have R0_6 := Lib.hid (R0_5.out.butIn (ButIn.of hbw6.out) C_5.out.size (.inr rfl))
  have R1_6 := Lib.hid (R1_5.out.butIn (ButIn.of hbw6.out) C_5.out.size (.inr rfl))
  have X0_6 := Lib.hid (X0_5.out.but (ButIn.of hbw6.out) (.inr (Nat.zero_le _)))
  have X1_6 := Lib.hid (X1_5.out.but (ButIn.of hbw6.out) (.inr (Nat.zero_le _)))
  have ow6 := hbw6.out.size
  clear hbw6 C_5 R0_5 R1_5 X0_5 X1_5
  go_wp2_with (first | (go_at_call 27; refine (sameFloat_any _ _ (wid_eq2 (by assumption) (by assumption) (by assumption) (by assumption)) _).mono ?_; rintro e w' ⟨rfl, n3, rfl⟩) | ((with_reducible refine upon_wid ?_ ?_ ?_); rotate_left 2; intro _ _ _ _; rotate_left 1; kernel_rfl; kernel_rfl))
  generalize _ + n3 = m
  have C_7 := Lib.hid (C_6.out.trans ((belowN (n := m) (Below.refl w6.heap.size w6)).mono C_6.out.size))
  have R0_7 := Lib.hid (R0_6.out.butIn (ButIn.of (belowN (n := m) (Below.refl w6.heap.size w6))) C_6.out.size (.inr rfl))
  have R1_7 := Lib.hid (R1_6.out.butIn (ButIn.of (belowN (n := m) (Below.refl w6.heap.size w6))) C_6.out.size (.inr rfl))
  have X0_7 := Lib.hid (X0_6.out.but (ButIn.of (belowN (n := m) (Below.refl w6.heap.size w6))) (.inr (Nat.zero_le _)))
  have X1_7 := Lib.hid (X1_6.out.but (ButIn.of (belowN (n := m) (Below.refl w6.heap.size w6))) (.inr (Nat.zero_le _)))
  clear C_6 R0_6 R1_6 X0_6 X1_6
  have ow7 : w6.heap.size ≤ (w6.drewN m).heap.size := Nat.le_refl _
  generalize w6.drewN m = w7 at *
  -- the copy is as it was
  go_wp2_with fail
  refine (toFRc A0 c0 z0 w7 (R0_7.out.mono C_7.out.size) hn0).mono ?_
  rintro e w8 ⟨Bw8, dw8, rfl, Kw8, Tw8, hbw8⟩
  have C_8 := Lib.hid (C_7.out.trans (hbw8.out.mono C_7.out.size))
  have R0_8 := Lib.hid (R0_7.out.butIn (ButIn.of hbw8.out) C_7.out.size (.inr rfl))
  have R1_8 := Lib.hid (R1_7.out.butIn (ButIn.of hbw8.out) C_7.out.size (.inr rfl))
  have X0_8 := Lib.hid (X0_7.out.but (ButIn.of hbw8.out) (.inr (Nat.zero_le _)))
  have X1_8 := Lib.hid (X1_7.out.but (ButIn.of hbw8.out) (.inr (Nat.zero_le _)))
  have Y0_8 := Tw8
  have ow8 := hbw8.out.size
  clear Tw8 hbw8 C_7 R0_7 R1_7 X0_7 X1_7
  go_wp2_with fail
  refine (eqR _ _ _ _ _ _ _ _ z0.length _ _ _ w8 X0_8.out Y0_8.out (Tl.self z0) (Tl.self z0) hn0).mono ?_
  rintro e w' ⟨rfl, nn, rfl⟩
  have C_9 := Lib.hid (C_8.out.trans ((belowN (n := nn) (Below.refl w8.heap.size w8)).mono C_8.out.size))
  have R0_9 := Lib.hid (R0_8.out.butIn (ButIn.of (belowN (n := nn) (Below.refl w8.heap.size w8))) C_8.out.size (.inr rfl))
  have R1_9 := Lib.hid (R1_8.out.butIn (ButIn.of (belowN (n := nn) (Below.refl w8.heap.size w8))) C_8.out.size (.inr rfl))
  have X0_9 := Lib.hid (X0_8.out.but (ButIn.of (belowN (n := nn) (Below.refl w8.heap.size w8))) (.inr (Nat.zero_le _)))
  have X1_9 := Lib.hid (X1_8.out.but (ButIn.of (belowN (n := nn) (Below.refl w8.heap.size w8))) (.inr (Nat.zero_le _)))
  have Y0_9 := Lib.hid (Y0_8.out.but (ButIn.of (belowN (n := nn) (Below.refl w8.heap.size w8))) (.inr (Nat.zero_le _)))
  clear C_8 R0_8 R1_8 X0_8 X1_8 Y0_8
  have ow9 : w8.heap.size ≤ (w8.drewN nn).heap.size := Nat.le_refl _
  generalize w8.drewN nn = w9 at *
  clear Y0_9
  -- the copy is as it was
  go_wp2_with fail
  refine (toIR A1 c1 z1 w9 (R1_9.out.mono C_9.out.size) hn1).mono ?_
  rintro e w10 ⟨Bw10, dw10, rfl, Tw10, hbw10⟩
  have C_10 := Lib.hid (C_9.out.trans (hbw10.out.mono C_9.out.size))
  have R0_10 := Lib.hid (R0_9.out.butIn (ButIn.of hbw10.out) C_9.out.size (.inr rfl))
  have R1_10 := Lib.hid (R1_9.out.butIn (ButIn.of hbw10.out) C_9.out.size (.inr rfl))
  have X0_10 := Lib.hid (X0_9.out.but (ButIn.of hbw10.out) (.inr (Nat.zero_le _)))
  have X1_10 := Lib.hid (X1_9.out.but (ButIn.of hbw10.out) (.inr (Nat.zero_le _)))
  have Y1_10 := Tw10
  have ow10 := hbw10.out.size
  clear Tw10 hbw10 C_9 R0_9 R1_9 X0_9 X1_9
  go_wp2_with fail
  refine (eqRI _ _ _ _ _ _ _ _ z1.length _ _ _ w10 X1_10.out Y1_10.out (TlI.self z1) (TlI.self z1) hn1).mono ?_
  rintro e w' ⟨rfl, nn, rfl⟩
  have C_11 := Lib.hid (C_10.out.trans ((belowN (n := nn) (Below.refl w10.heap.size w10)).mono C_10.out.size))
  have R0_11 := Lib.hid (R0_10.out.butIn (ButIn.of (belowN (n := nn) (Below.refl w10.heap.size w10))) C_10.out.size (.inr rfl))
  have R1_11 := Lib.hid (R1_10.out.butIn (ButIn.of (belowN (n := nn) (Below.refl w10.heap.size w10))) C_10.out.size (.inr rfl))
  have X0_11 := Lib.hid (X0_10.out.but (ButIn.of (belowN (n := nn) (Below.refl w10.heap.size w10))) (.inr (Nat.zero_le _)))
  have X1_11 := Lib.hid (X1_10.out.but (ButIn.of (belowN (n := nn) (Below.refl w10.heap.size w10))) (.inr (Nat.zero_le _)))
  have Y1_11 := Lib.hid (Y1_10.out.but (ButIn.of (belowN (n := nn) (Below.refl w10.heap.size w10))) (.inr (Nat.zero_le _)))
  clear C_10 R0_10 R1_10 X0_10 X1_10 Y1_10
  have ow11 : w10.heap.size ≤ (w10.drewN nn).heap.size := Nat.le_refl _
  generalize w10.drewN nn = w11 at *
  clear Y1_11
  go_wp2_with fail
  go_ret
  exact ⟨rfl, C_11.out⟩

end Go.Proofs.Ythhimielelpcoaa
