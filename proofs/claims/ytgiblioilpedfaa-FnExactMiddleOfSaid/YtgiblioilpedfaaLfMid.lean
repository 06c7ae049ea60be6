/-
  What is proved here: the law FnExactMiddleOf, as a walk. Conditions: the fields and lists are ones that a machine can hold.
-/
import Derived.Test.YtgiblioilpedfaaMdq
import Derived.Test.YtgiblioilpedfaaFio
import Derived.Deep.RegionHeld3
namespace Go.Proofs.Ytgiblioilpedfaa
open Flt Go.RowKit
set_option linter.unusedVariables false

set_option maxHeartbeats 16000000 in
set_option maxRecDepth 1000000 in
theorem lawMid (x0 y0 : Int) (A0 : Option Addr) (n0 c0 : Nat) (p0 : Nat → Bool) {w : World} (hl0 : FieldIn w x0 y0 A0 n0 p0)  :
    Calls Try.prog 7 #[.agg #[.int .i64 x0, .int .i64 y0, .slice A0 n0 c0]] w fun e w' => e = .returned (.bool true) ∧ Below w.heap.size w w' := by
  obtain ⟨hrow0, hN0, hwx0, hwy0⟩ := hl0
  by_cases hq0 : n0 ≤ 1048576
  rotate_left
  · have HB0 := Lib.hid (below_var w x0 y0 A0 n0 c0 35)
    have b1 : szN n0 1048576 < 0 := by unfold szN; rw [if_neg hq0]; omega
    have HZ := Lib.hid (szField_is x0 y0 A0 n0 c0 1048576 (Nat.le_refl _) hN0 (w.alloc (.cells #[.int .i64 x0, .int .i64 y0, .slice A0 n0 c0] 35)))
    clear hrow0
    generalize szN n0 1048576 = r at *
    go_enter Try.func7, Try.ntmps7
    go_wp2_with fail
    refine HZ.out.mono ?_
    rintro e w' ⟨rfl, hb⟩
    have HB1 := Lib.hid (HB0.out.trans (hb.mono HB0.out.size))
    clear hb HZ HB0
    go_wp2_with fail
    go_ret
    exact ⟨rfl, HB1.out⟩
  have hn0 : n0 ≤ 1048576 := by omega
  obtain ⟨cx, cy, gv, b, X, Y, hcv, hS, hI⟩ := midBoth2 x0 y0 n0 p0 hn0
  have HSP := Lib.hid hS
  have HIM := Lib.hid hI
  have R0_0 : Hid (RowV w w.heap.size A0 n0 (bo p0)) := hrow0
  have C_0 : Hid (Below w.heap.size w w) := Below.refl _ _
  have b1 : ¬ szN n0 1048576 < 0 := by rw [szN_eq hn0]; omega
  have HZ := Lib.hid (szField_is x0 y0 A0 n0 c0 1048576 (Nat.le_refl _) hN0 (w.alloc (.cells #[.int .i64 x0, .int .i64 y0, .slice A0 n0 c0] 35)))
  have hb0 := below_var w x0 y0 A0 n0 c0 35
  have R0_1 := Lib.hid (R0_0.out.butIn (ButIn.of hb0) C_0.out.size (.inr rfl))
  have C_1 := Lib.hid (C_0.out.trans (hb0.mono C_0.out.size))
  have Va0_1 := Lib.hid (varT_new w x0 y0 A0 n0 c0 35)
  have oa0 : w.heap.size < (w.alloc (.cells #[.int .i64 x0, .int .i64 y0, .slice A0 n0 c0] 35)).heap.size := Va0_1.out.lt
  clear hb0 R0_0 C_0
  clear hS hI hrow0
  generalize szN n0 1048576 = r at *
  go_enter Try.func7, Try.ntmps7
  go_wp2_with fail
  generalize (w.alloc (.cells #[.int .i64 x0, .int .i64 y0, .slice A0 n0 c0] 35)) = a0 at *
  refine HZ.out.mono ?_
  rintro e wz ⟨rfl, hbz⟩
  clear HZ
  have R0_2 := Lib.hid (R0_1.out.butIn (ButIn.of hbz) C_1.out.size (.inr rfl))
  have C_2 := Lib.hid (C_1.out.trans (hbz.mono C_1.out.size))
  have Va0_2 := Lib.hid (Va0_1.out.below hbz)
  have oz := hbz.size
  clear hbz R0_1 C_1 Va0_1
  have Va0c0 := Va0_2.out.c0
  have Va0c1 := Va0_2.out.c1
  have Va0c2 := Va0_2.out.c2
  have Va0lt := Va0_2.out.lt
  go_wp2_with fail
  clear Va0c0 Va0c1 Va0c2 Va0lt
  refine (toFie x0 y0 A0 n0 c0 p0 wz (R0_2.out.mono C_2.out.size) hn0).mono ?_
  rintro e w1 ⟨Bw1, dw1, rfl, Tw1, hbw1⟩
  have R0_3 := Lib.hid (R0_2.out.butIn (ButIn.of hbw1.out) C_2.out.size (.inr rfl))
  have C_3 := Lib.hid (C_2.out.trans (hbw1.out.mono C_2.out.size))
  have Va0_3 := Lib.hid (Va0_2.out.below hbw1.out)
  have S0_3 := Tw1
  have ow1 := hbw1.out.size
  clear Tw1 hbw1 R0_2 C_2 Va0_2
  go_wp2_with fail
  refine (HSP.out w1 _ _ S0_3.out.toRow).mono ?_
  rintro e w2 ⟨qw, rfl, hww, hcw, hbw2⟩
  have R0_4 := Lib.hid (R0_3.out.butIn (ButIn.of hbw2.out) C_3.out.size (.inr rfl))
  have C_4 := Lib.hid (C_3.out.trans (hbw2.out.mono C_3.out.size))
  have Va0_4 := Lib.hid (Va0_3.out.below hbw2.out)
  have S0_4 := Lib.hid (S0_3.out.below hbw2.out)
  have ow2 := hbw2.out.size
  clear hbw2 R0_3 C_3 Va0_3 S0_3
  clear S0_4
  have Va0c0 := Va0_4.out.c0
  have Va0c1 := Va0_4.out.c1
  have Va0c2 := Va0_4.out.c2
  have Va0lt := Va0_4.out.lt
  go_wp2_with fail
  clear Va0c0 Va0c1 Va0c2 Va0lt
  refine (toFie x0 y0 A0 n0 c0 p0 w2 (R0_4.out.mono C_4.out.size) hn0).mono ?_
  rintro e w3 ⟨Bw3, dw3, rfl, Tw3, hbw3⟩
  have R0_5 := Lib.hid (R0_4.out.butIn (ButIn.of hbw3.out) C_4.out.size (.inr rfl))
  have C_5 := Lib.hid (C_4.out.trans (hbw3.out.mono C_4.out.size))
  have Va0_5 := Lib.hid (Va0_4.out.below hbw3.out)
  have X0_5 := Tw3
  have ow3 := hbw3.out.size
  clear Tw3 hbw3 R0_4 C_4 Va0_4
  have hbA := below_var w3 x0 y0 Bw3 n0 dw3 40
  have R0_6 := Lib.hid (R0_5.out.butIn (ButIn.of hbA) C_5.out.size (.inr rfl))
  have C_6 := Lib.hid (C_5.out.trans (hbA.mono C_5.out.size))
  have Va0_6 := Lib.hid (Va0_5.out.below hbA)
  have X0_6 := Lib.hid (X0_5.out.below hbA)
  have Vx0_6 := Lib.hid (varT_new w3 x0 y0 Bw3 n0 dw3 40)
  have ow4 : w3.heap.size < (w3.alloc (.cells #[.int .i64 x0, .int .i64 y0, .slice Bw3 n0 dw3] 40)).heap.size := Vx0_6.out.lt
  clear hbA R0_5 C_5 Va0_5 X0_5
  go_wp2_with fail
  generalize w3.alloc (.cells #[.int .i64 x0, .int .i64 y0, .slice Bw3 n0 dw3] 40) = w4 at *
  refine (HIM.out w4 _ _ X0_6.out.toRow).mono ?_
  rintro e w5 ⟨qg, rfl, hwg, hcg, hbw5⟩
  have R0_7 := Lib.hid (R0_6.out.butIn (ButIn.of hbw5.out) C_6.out.size (.inr rfl))
  have C_7 := Lib.hid (C_6.out.trans (hbw5.out.mono C_6.out.size))
  have Va0_7 := Lib.hid (Va0_6.out.below hbw5.out)
  have X0_7 := Lib.hid (X0_6.out.below hbw5.out)
  have Vx0_7 := Lib.hid (Vx0_6.out.below hbw5.out)
  have ow5 := hbw5.out.size
  clear hbw5 R0_6 C_6 Va0_6 X0_6 Vx0_6
  go_wp2_with (first | (go_at_call 35; refine (sameC _ _ _ _ rfl rfl _).mono ?_; rintro e w' ⟨rfl, n3, rfl⟩) | (go_at_call 36; refine (sameFloat_any _ _ (wid_eq2 (by assumption) (by assumption) (by assumption) (by assumption)) _).mono ?_; rintro e w' ⟨rfl, n3, rfl⟩) | ((with_reducible refine upon_wid ?_ ?_ ?_); rotate_left 2; intro _ _ _ _; rotate_left 1; kernel_rfl; kernel_rfl))
  generalize _ + n3 = m
  have R0_8 := Lib.hid (R0_7.out.butIn (ButIn.of (belowN (n := m) (Below.refl w5.heap.size w5))) C_7.out.size (.inr rfl))
  have C_8 := Lib.hid (C_7.out.trans ((belowN (n := m) (Below.refl w5.heap.size w5)).mono C_7.out.size))
  have Va0_8 := Lib.hid (Va0_7.out.below (belowN (n := m) (Below.refl w5.heap.size w5)))
  have X0_8 := Lib.hid (X0_7.out.below (belowN (n := m) (Below.refl w5.heap.size w5)))
  have Vx0_8 := Lib.hid (Vx0_7.out.below (belowN (n := m) (Below.refl w5.heap.size w5)))
  clear R0_7 C_7 Va0_7 X0_7 Vx0_7
  have ow6 : w5.heap.size ≤ (w5.drewN m).heap.size := Nat.le_refl _
  generalize w5.drewN m = w6 at *
  -- the copy is as it was
  have Vx0c0 := Vx0_8.out.c0
  have Vx0c1 := Vx0_8.out.c1
  have Vx0c2 := Vx0_8.out.c2
  have Vx0lt := Vx0_8.out.lt
  have Va0c0 := Va0_8.out.c0
  have Va0c1 := Va0_8.out.c1
  have Va0c2 := Va0_8.out.c2
  have Va0lt := Va0_8.out.lt
  go_wp2_with fail
  have hR6 : Hid (RowV w6 w6.heap.size A0 n0 (bo p0)) := R0_8.out.mono C_8.out.size
  have hX6 := X0_8
  have x6 : w.heap.size < w6.heap.size := Va0_8.out.lt
  have y6 : w3.heap.size < w6.heap.size := Vx0_8.out.lt
  have K0 : Hid (Below w6.heap.size w6 w6.drew) := (Below.refl _ _).drew
  go_region_held3 (fun w' => w'.cell? ⟨w3.heap.size, 0, none⟩ = some (.int .i64 x0) ∧ w'.cell? ⟨w3.heap.size, 1, none⟩ = some (.int .i64 y0) ∧ w'.cell? ⟨w3.heap.size, 2, none⟩ = some (.slice Bw3 n0 dw3) ∧ w'.cell? ⟨w.heap.size, 0, none⟩ = some (.int .i64 x0) ∧ w'.cell? ⟨w.heap.size, 1, none⟩ = some (.int .i64 y0) ∧ w'.cell? ⟨w.heap.size, 2, none⟩ = some (.slice A0 n0 c0) ∧ Hid (Below w6.heap.size w6 w')) (first | (exact ⟨by assumption, by assumption, by assumption, by assumption, by assumption, by assumption, by assumption⟩) | go_keep)
    (first
      | ((go_at_call 22; refine (toFie x0 y0 A0 n0 c0 p0 _ (hR6.out.carry ((‹Hid (Below w6.heap.size w6 _)›).out)) hn0).mono ?_; rintro e wq7 ⟨A7, c7, rfl, O7, hb7⟩; have K7 := Lib.hid ((‹Hid (Below w6.heap.size w6 _)›).out.trans (hb7.out.mono (‹Hid (Below w6.heap.size w6 _)›).out.size)); obtain ⟨e0, e1, e2⟩ := keepT (v := w.heap.size) hb7.out (by assumption) (by assumption) (by assumption) (by assumption) x6; obtain ⟨f0, f1, f2⟩ := keepT (v := w3.heap.size) hb7.out (by assumption) (by assumption) (by assumption) (by assumption) y6))
      | ((go_at_call 25; refine (eqFie x0 y0 _ _ n0 _ _ _ _ _ _ p0 _ (hX6.out.below ((‹Hid (Below w6.heap.size w6 _)›).out)) (‹Hid (RowW _ _ _ A7 _ _)›).out hn0).mono ?_; rintro e w8x0 ⟨rfl, hb8⟩; have K8 := Lib.hid ((‹Hid (Below w6.heap.size w6 _)›).out.trans (hb8.out.mono (‹Hid (Below w6.heap.size w6 _)›).out.size)); obtain ⟨e0, e1, e2⟩ := keepT (v := w.heap.size) hb8.out (by assumption) (by assumption) (by assumption) (by assumption) x6; obtain ⟨f0, f1, f2⟩ := keepT (v := w3.heap.size) hb8.out (by assumption) (by assumption) (by assumption) (by assumption) y6)))
  have hb9 := Lib.hid ((‹Hid (Below w6.heap.size w6 w8x0)›).out)
  clear Vx0c0 Vx0c1 Vx0c2 Vx0lt Va0c0 Va0c1 Va0c2 Va0lt hR6 hX6 x6 y6 K0
  have R0_9 := Lib.hid (R0_8.out.butIn (ButIn.of hb9.out) C_8.out.size (.inr rfl))
  have C_9 := Lib.hid (C_8.out.trans (hb9.out.mono C_8.out.size))
  have Va0_9 := Lib.hid (Va0_8.out.below hb9.out)
  have X0_9 := Lib.hid (X0_8.out.below hb9.out)
  have Vx0_9 := Lib.hid (Vx0_8.out.below hb9.out)
  have ow7 := hb9.out.size
  clear hb9 R0_8 C_8 Va0_8 X0_8 Vx0_8
  go_wp2_with fail
  go_ret
  exact ⟨rfl, C_9.out⟩

end Go.Proofs.Ytgiblioilpedfaa
