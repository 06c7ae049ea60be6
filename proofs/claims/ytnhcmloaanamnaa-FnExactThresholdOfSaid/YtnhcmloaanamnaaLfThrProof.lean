/-
  What is proved here: for every argument, FnExactThresholdOf returns true: the function of package impl that it names answers as the model of the document does, and the arguments read afterwards as they read before. Conditions: none.
-/
import Derived.Test.YtnhcmloaanamnaaTh7
import Derived.Test.YtnhcmloaanamnaaFio
import Derived.Deep.RegionHeld3
import Derived.Test.YtnhcmloaanamnaaLvf
import Derived.Test.YtnhcmloaanamnaaRows
import Derived.WalkKit
import Derived.ProofKit
import Derived.OpenShut
import Derived.ShutString
import Derived.ChangeOld
import Derived.Below
namespace Go.Proofs.Ytnhcmloaanamnaa
open Flt Go.RowKit
set_option linter.unusedVariables false

set_option maxHeartbeats 16000000 in
set_option maxRecDepth 1000000 in
theorem lawThr (A0 : Option Addr) (n0 c0 : Nat) (z0 : List Nat) (wd : Int) (hg : Int) {w : World} (hl0 : ListF w A0 n0 z0)  :
    Calls Try.prog 6 #[.slice A0 n0 c0, .int .i64 wd, .int .i64 hg] w fun e w' => e = .returned (.bool true) ∧ Below w.heap.size w w' := by
  obtain ⟨hsz0, hrowi0, hmax0⟩ := hl0
  subst hsz0
  have hN0 : z0.length ≤ 9223372036854775807 := by unfold maxLen at hmax0; omega
  have hrow0 : RowV w w.heap.size A0 z0.length (fv (at0 z0)) := hrowi0
  clear hrowi0 hmax0
  by_cases hbig0 : 1048576 < z0.length
  · clear hrow0
    have HB0 := Lib.hid (Below.refl w.heap.size w)
    go_enter Try.func6, Try.ntmps6
    go_wp2
    go_ret
    exact ⟨rfl, HB0.out⟩
  have hn0 : z0.length ≤ 1048576 := by omega
  clear hbig0
  obtain ⟨v, b, hS, hI⟩ := thrBoth z0 wd hg hn0
  have HSP := Lib.hid hS
  have HIM := Lib.hid hI
  have R0_0 : Hid (RowV w w.heap.size A0 z0.length (fv (at0 z0))) := hrow0
  have C_0 : Hid (Below w.heap.size w w) := Below.refl _ _
  clear hS hI hrow0
  go_enter Try.func6, Try.ntmps6
  go_wp2_with fail
  refine (toFv A0 z0.length c0 (at0 z0) w (R0_0.out.mono C_0.out.size) hn0).mono ?_
  rintro e w1 ⟨Bw1, dw1, rfl, Tw1, hbw1⟩
  have R0_1 := Lib.hid (R0_0.out.butIn (ButIn.of hbw1.out) C_0.out.size (.inr rfl))
  have C_1 := Lib.hid (C_0.out.trans (hbw1.out.mono C_0.out.size))
  have S0_1 := Tw1
  have ow1 := hbw1.out.size
  clear Tw1 hbw1 R0_0 C_0
  go_wp2_with fail
  refine (HSP.out w1 _ _ S0_1.out.toRow).mono ?_
  rintro e w2 ⟨fw, rfl, hcw, hbw2⟩
  have R0_2 := Lib.hid (R0_1.out.butIn (ButIn.of hbw2.out) C_1.out.size (.inr rfl))
  have C_2 := Lib.hid (C_1.out.trans (hbw2.out.mono C_1.out.size))
  have S0_2 := Lib.hid (S0_1.out.below hbw2.out)
  have ow2 := hbw2.out.size
  clear hbw2 R0_1 C_1 S0_1
  clear S0_2
  go_wp2_with fail
  refine (toFv A0 z0.length c0 (at0 z0) w2 (R0_2.out.mono C_2.out.size) hn0).mono ?_
  rintro e w3 ⟨Bw3, dw3, rfl, Tw3, hbw3⟩
  have R0_3 := Lib.hid (R0_2.out.butIn (ButIn.of hbw3.out) C_2.out.size (.inr rfl))
  have C_3 := Lib.hid (C_2.out.trans (hbw3.out.mono C_2.out.size))
  have X0_3 := Tw3
  have ow3 := hbw3.out.size
  clear Tw3 hbw3 R0_2 C_2
  go_wp2_with fail
  refine (HIM.out w3 _ _ X0_3.out.toRow).mono ?_
  rintro e w4 ⟨fg, rfl, hcg, hbw4⟩
  have R0_4 := Lib.hid (R0_3.out.butIn (ButIn.of hbw4.out) C_3.out.size (.inr rfl))
  have C_4 := Lib.hid (C_3.out.trans (hbw4.out.mono C_3.out.size))
  have X0_4 := Lib.hid (X0_3.out.below hbw4.out)
  have ow4 := hbw4.out.size
  clear hbw4 R0_3 C_3 X0_3
  go_wp2_with (first | (go_at_call 22; refine (sameFloat_any _ _ (wid_eq2 (by assumption) (by assumption) (by assumption) (by assumption)) _).mono ?_; rintro e w' ⟨rfl, n3, rfl⟩) | ((with_reducible refine upon_wid ?_ ?_ ?_); rotate_left 2; intro _ _ _ _; rotate_left 1; kernel_rfl; kernel_rfl))
  generalize _ + n3 = m
  have R0_5 := Lib.hid (R0_4.out.butIn (ButIn.of (belowN (n := m) (Below.refl w4.heap.size w4))) C_4.out.size (.inr rfl))
  have C_5 := Lib.hid (C_4.out.trans ((belowN (n := m) (Below.refl w4.heap.size w4)).mono C_4.out.size))
  have X0_5 := Lib.hid (X0_4.out.below (belowN (n := m) (Below.refl w4.heap.size w4)))
  clear R0_4 C_4 X0_4
  have ow5 : w4.heap.size ≤ (w4.drewN m).heap.size := Nat.le_refl _
  generalize w4.drewN m = w5 at *
  -- the copy is as it was
  go_wp2_with fail
  refine (toFv A0 z0.length c0 (at0 z0) w5 (R0_5.out.mono C_5.out.size) hn0).mono ?_
  rintro e w6 ⟨Bw6, dw6, rfl, Tw6, hbw6⟩
  have R0_6 := Lib.hid (R0_5.out.butIn (ButIn.of hbw6.out) C_5.out.size (.inr rfl))
  have C_6 := Lib.hid (C_5.out.trans (hbw6.out.mono C_5.out.size))
  have X0_6 := Lib.hid (X0_5.out.below hbw6.out)
  have Y0_6 := Tw6
  have ow6 := hbw6.out.size
  clear Tw6 hbw6 R0_5 C_5 X0_5
  go_wp2_with fail
  refine (eqFv _ _ z0.length _ _ _ _ _ _ (at0 z0) w6 X0_6.out Y0_6.out hn0).mono ?_
  rintro e w7 ⟨rfl, hbe⟩
  have R0_7 := Lib.hid (R0_6.out.butIn (ButIn.of hbe.out) C_6.out.size (.inr rfl))
  have C_7 := Lib.hid (C_6.out.trans (hbe.out.mono C_6.out.size))
  have X0_7 := Lib.hid (X0_6.out.below hbe.out)
  have Y0_7 := Lib.hid (Y0_6.out.below hbe.out)
  have ow7 := hbe.out.size
  clear hbe R0_6 C_6 X0_6 Y0_6
  clear Y0_7
  go_wp2_with fail
  go_ret
  exact ⟨rfl, C_7.out⟩

end Go.Proofs.Ytnhcmloaanamnaa

namespace Go.Proofs.Ytnhcmloaanamnaa.fnExactThresholdOf
open Go.ChangeShapes Go.WideShapes Go.ChangeAt Go.RowKit
open Go.ChangeMaps (open_string shut_string)
set_option linter.unusedVariables false

theorem own : ownKnob Try.prog.godebug = none := by kernel_rfl
theorem laidOut : laidOutB Try.prog = true := by kernel_rfl

set_option maxRecDepth 100000 in
theorem lifted (os : Os) (started : os.Started) (H : Type) (enc : TypeId × Value → H) :
    ReturnsInHanded {} Try.checked os 6 .any (Rows.fnExactThresholdOfSpec.pre6 enc Try.prog Try.f6 Rows.fnExactThresholdOfRow.domain false) (Rows.fnExactThresholdOfSpec.post enc Try.prog Try.f6 false true false false) := by
  refine returnsInHanded_of_change (C := Try.checked) own started (by kernel_rfl) Try.func6
    (ChangeSpec.witness6 (enc := enc) (C := Try.checked) false ⟨#[], #[.slice none 0 0, .int .i64 0, .int .i64 0], []⟩ 8 (by kernel_rfl) (by kernel_rfl) (by kernel_rfl) (by kernel_rfl)) ?_
  intro W base args ds gs before hval0 hW hcnd _
  have hval : ∀ (j : Nat) t v, Try.f6.params[j]? = some t → args[j]? = some v → Value.okWide Try.prog W .any base t v := hval0
  have hW' := hW
  obtain ⟨p, q, hA0, hV, rfl, hfz, hnd⟩ := hW
  have hA : DataW.TrodAll enc Try.prog W 0 (fun _ => true) true Try.f6.params.toList args.toList ds p := hA0
  rw [Try.params6] at hA hval
  obtain ⟨v0, vs0, d0, ds0, p0, q0, hargs, rfl, rfl, h0, r0⟩ := trodAll_cons hA
  obtain ⟨v1, vs1, d1, ds1, p1, q1, rfl, rfl, rfl, h1, r1⟩ := trodAll_cons r0
  obtain ⟨v2, vs2, d2, ds2, p2, q2, rfl, rfl, rfl, h2, r2⟩ := trodAll_cons r1
  obtain ⟨rfl, rfl, rfl⟩ := trodAll_nil r2
  obtain rfl : args = #[v0, v1, v2] := by cases args; simp_all
  obtain ⟨rfl, rfl⟩ := trodVars_none hV
  obtain ⟨a0, len0, cap0, rfl⟩ := okWide_slice Try.underlying22 (hval 0 22 v0 rfl rfl)
  have k0 := h0
  have lt0 : ∀ x ∈ p0, x.block < W.heap.size := by obtain ⟨m, hm⟩ := k0; exact DataW.trod_lt m _ _ _ hm
  obtain ⟨z0, w0⟩ := open_floats Try.underlying22 Try.underlying34 (by kernel_rfl) h0
  obtain ⟨a1, rfl, rfl, rfl, w1⟩ := open_int Try.underlying2 (hval 1 2 v1 rfl rfl) h1
  obtain ⟨a2, rfl, rfl, rfl, w2⟩ := open_int Try.underlying2 (hval 2 2 v2 rfl rfl) h2
  clear hA0 hval0
  refine (lawThr a0 len0 cap0 z0 a1 a2 w0).mono fun e W' ⟨he, bel⟩ => ?_
  subst he
  exact ⟨_, rfl, _, _, _, [], _, [], hW', trodAll_mk1 (shut_bool Try.underlying4 _), (trodAll_cons_mk (Below.trod laidOut (by kernel_rfl) (of_decide_eq_true (by kernel_rfl)) k0 bel lt0) (trodAll_cons_mk (shut_int Try.underlying2 w1) (trodAll_cons_mk (shut_int Try.underlying2 w2) trodAll_mk0))), rfl, bel.frame _, fun h => by cases h⟩

theorem proved : Rows.FnExactThresholdOfSaid :=
  OpenClaim.holds_of_wide 6 Try.f6 rfl rfl rfl rfl rfl rfl rfl ⟨rfl, rfl, rfl, rfl, rfl⟩ rfl rfl rfl rfl rfl (by kernel_rfl) Try.func6 (by kernel_rfl)
    (of_decide_eq_true (by kernel_rfl)) (by unfold Func.isWrapper; rw [if_neg (of_decide_eq_false (by kernel_rfl))]; exact ⟨rfl, rfl⟩)
    (fun os started H enc _ => lifted os started H enc)

end Go.Proofs.Ytnhcmloaanamnaa.fnExactThresholdOf
