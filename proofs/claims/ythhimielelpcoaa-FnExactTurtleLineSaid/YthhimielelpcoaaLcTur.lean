/-
  What is proved here: the law FnExactTurtleLine, as a walk. Conditions: a text that a machine can hold.
-/
import Derived.Test.YthhimielelpcoaaTrb
namespace Go.Proofs.Ythhimielelpcoaa
open Flt Go.RowKit
set_option linter.unusedVariables false

set_option maxHeartbeats 16000000 in
set_option maxRecDepth 1000000 in
theorem lawTur (s : ByteArray) (u v : Nat) (hs : s.size ≤ maxLen) (w : World) :
    Calls Try.prog 6 #[.string s, .float .f32 u, .float .f32 v] w fun e w' => e = .returned (.bool true) ∧ Below w.heap.size w w' := by
  have hs2 : s.size ≤ 9223372036854775807 := by unfold maxLen at hs; omega
  by_cases hbig : 1048576 < s.size
  · go_enter Try.func6, Try.ntmps6
    go_wp2
    go_ret
    exact ⟨rfl, Below.refl _ _⟩
  obtain ⟨ys, b, hys, hS, hI⟩ := turBoth s u v hs2
  have HSP := Lib.hid hS
  have HIM := Lib.hid hI
  clear hS hI hs
  go_enter Try.func6, Try.ntmps6
  go_wp2_with fail
  refine (HSP.out w).mono ?_
  rintro e w3 ⟨Aw, cw, rfl, RW, hb3⟩
  have C3 := Lib.hid hb3.out
  clear hb3 HSP
  go_wp2_with fail
  refine (HIM.out w3).mono ?_
  rintro e w5 ⟨Ag, cg, rfl, RG, hb5⟩
  have RW5 := Lib.hid (RW.out.but (ButIn.of hb5.out) (.inr (Nat.zero_le _)))
  have C5 := Lib.hid (C3.out.trans (hb5.out.mono C3.out.size))
  have o5 := Lib.hid hb5.out.size
  clear hb5 RW
  go_wp2_with fail
  refine (eqD _ _ _ _ _ _ _ _ ys w5 RG.out RW5.out hys).mono ?_
  rintro e w6 ⟨rfl, hb6⟩
  have RW6 := Lib.hid (RW5.out.but (ButIn.of hb6.out) (.inr (Nat.zero_le _)))
  have RG6 := Lib.hid (RG.out.but (ButIn.of hb6.out) (.inr (Nat.zero_le _)))
  have C6 := Lib.hid (C5.out.trans (hb6.out.mono C5.out.size))
  clear hb6 RW5 RG C5
  go_wp2_with fail
  refine (markD Ag cg w3.heap.size w5.heap.size ys w6 RG6.out hys).mono ?_
  rintro e w7 ⟨rfl, RM, hbm⟩
  have RW7 := Lib.hid (RW6.out.but hbm.out (.inl (Nat.le_refl _)))
  have C7 := Lib.hid (C6.out.trans (hbm.out.toBelow C3.out.size C6.out.size))
  clear hbm RW6 RG6 C6
  go_wp2_with fail
  refine (heldD Ag cg w3.heap.size w5.heap.size ys.length w7 RM.out hys).mono ?_
  rintro e w8 ⟨rfl, hb8⟩
  have RW8 := Lib.hid (RW7.out.but (ButIn.of hb8.out) (.inr (Nat.zero_le _)))
  have RM8 := Lib.hid (RM.out.but (ButIn.of hb8.out) (.inr (Nat.zero_le _)))
  have C8 := Lib.hid (C7.out.trans (hb8.out.mono C7.out.size))
  clear hb8 RW7 RM C7
  go_wp2_with fail
  refine (HIM.out w8).mono ?_
  rintro e w9 ⟨Ah, ch, rfl, RH, hb9⟩
  have RW9 := Lib.hid (RW8.out.but (ButIn.of hb9.out) (.inr (Nat.zero_le _)))
  have RM9 := Lib.hid (RM8.out.but (ButIn.of hb9.out) (.inr (Nat.zero_le _)))
  have C9 := Lib.hid (C8.out.trans (hb9.out.mono C8.out.size))
  clear hb9 RW8 RM8 C8 HIM
  go_wp2_with fail
  refine (eqD _ _ _ _ _ _ _ _ ys w9 RH.out RW9.out hys).mono ?_
  rintro e w10 ⟨rfl, hb10⟩
  have RM10 := Lib.hid (RM9.out.but (ButIn.of hb10.out) (.inr (Nat.zero_le _)))
  have C10 := Lib.hid (C9.out.trans (hb10.out.mono C9.out.size))
  clear hb10 RW9 RM9 C9 RH
  go_wp2_with fail
  refine (heldD Ag cg w3.heap.size w5.heap.size ys.length w10 RM10.out hys).mono ?_
  rintro e w11 ⟨rfl, hb11⟩
  have C11 := Lib.hid (C10.out.trans (hb11.out.mono C10.out.size))
  clear hb11 C10
  go_wp2_with fail
  go_ret
  exact ⟨rfl, C11.out⟩
end Go.Proofs.Ythhimielelpcoaa
