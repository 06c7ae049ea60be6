/-
  What is proved here: the law FnExactFlatSheet, as a walk. Conditions: none.
-/
import Derived.Test.YtckhdbnoihieeaaFla
import Derived.Test.YtckhdbnoihieeaaOpenT
import Derived.Test.YtckhdbnoihieeaaLsk
import Derived.Test.YtckhdbnoihieeaaTfr
import Derived.Deep.RegionHeld3
namespace Go.Proofs.Ytckhdbnoihieeaa
open Flt Go.RowKit

set_option maxHeartbeats 16000000 in
set_option maxRecDepth 1000000 in
theorem lawFla (wd hg : Int) (h : Nat) (ww : (Lit.int .i64 wd).wf = true) (wh : (Lit.int .i64 hg).wf = true) (hh : WF .f32 h) (w : World) :
    Calls Try.prog 7 #[.int .i64 wd, .int .i64 hg, .float .f32 h] w fun e w' => e = .returned (.bool true) ∧ Below w.heap.size w w' := by
  obtain ⟨p, q, ys, b, hys, hS, hI⟩ := flatBoth wd hg h hh ww wh
  have HSP := Lib.hid hS
  have HIM := Lib.hid hI
  have C0 : Hid (Below w.heap.size w w) := Below.refl _ _
  clear hS hI hh ww wh
  go_enter Try.func7, Try.ntmps7
  go_wp2_with fail
  generalize hX : w.heap.size = X at *
  have HXX := Lib.hid hX
  clear hX
  refine (HSP.out w).mono ?_
  rintro e w3 ⟨Aw, cw, rfl, RWx, hb3⟩
  have C1 := Lib.hid (C0.out.trans (hb3.out.mono (lex HXX.out C0.out)))
  have RW1 : Hid (RowIn w3 X w3.heap.size Aw ys) := (by rw [← HXX.out]; exact RWx)
  clear hb3 RWx C0
  have o1 : X ≤ w3.heap.size := (lex HXX.out C1.out)
  have hbA : Below w3.heap.size w3 (w3.alloc (.cells #[.int .i64 p, .int .i64 q, .slice Aw ys.length cw] 27)) := (Below.refl _ _).alloc (Nat.le_refl _) _
  have C2 := Lib.hid (C1.out.trans (hbA.mono (lex HXX.out C1.out)))
  have RW2 := Lib.hid (RW1.out.but (ButIn.of hbA) (.inr (Nat.zero_le _)))
  have V02 := Lib.hid (varT_new w3 p q Aw ys.length cw 27)
  clear hbA C1 RW1
  go_wp2_with fail
  generalize w3.alloc (.cells #[.int .i64 p, .int .i64 q, .slice Aw ys.length cw] 27) = a3 at *
  generalize w3.heap.size = v0 at *
  refine (HIM.out a3).mono ?_
  rintro e w5 ⟨Ag, cg, rfl, RGx, hb5⟩
  have C3 := Lib.hid (C2.out.trans (hb5.out.mono (lex HXX.out C2.out)))
  have RW3 := Lib.hid (RW2.out.but (ButIn.of hb5.out) (.inr (Nat.zero_le _)))
  have V03 := Lib.hid (V02.out.below hb5.out)
  have RG3 : Hid (RowIn w5 (v0 + 1) w5.heap.size Ag ys) := RGx.out.lower (Nat.succ_le_of_lt V02.out.lt)
  clear hb5 RGx C2 RW2 V02
  have o3 : v0 < w5.heap.size := V03.out.lt
  have V0c0 := V03.out.c0
  have V0c1 := V03.out.c1
  have V0c2 := V03.out.c2
  have hbA : Below w5.heap.size w5 (w5.alloc (.cells #[.int .i64 p, .int .i64 q, .slice Ag ys.length cg] 27)) := (Below.refl _ _).alloc (Nat.le_refl _) _
  have C4 := Lib.hid (C3.out.trans (hbA.mono (lex HXX.out C3.out)))
  have RW4 := Lib.hid (RW3.out.but (ButIn.of hbA) (.inr (Nat.zero_le _)))
  have V04 := Lib.hid (V03.out.below hbA)
  have RG4 := Lib.hid (RG3.out.but (ButIn.of hbA) (.inr (Nat.zero_le _)))
  have Vg4 := Lib.hid (varT_new w5 p q Ag ys.length cg 27)
  clear hbA C3 RW3 V03 RG3
  go_wp2_with fail
  clear V0c0 V0c1 V0c2
  generalize w5.alloc (.cells #[.int .i64 p, .int .i64 q, .slice Ag ys.length cg] 27) = a5 at *
  generalize w5.heap.size = vg at *
  refine (eqT p q _ _ _ _ _ _ _ _ ys a5 RG4.out RW4.out hys).mono ?_
  rintro e w6 ⟨rfl, hbe⟩
  have C5 := Lib.hid (C4.out.trans (hbe.out.mono (lex HXX.out C4.out)))
  have RW5 := Lib.hid (RW4.out.but (ButIn.of hbe.out) (.inr (Nat.zero_le _)))
  have V05 := Lib.hid (V04.out.below hbe.out)
  have RG5 := Lib.hid (RG4.out.but (ButIn.of hbe.out) (.inr (Nat.zero_le _)))
  have Vg5 := Lib.hid (Vg4.out.below hbe.out)
  clear hbe C4 RW4 V04 RG4 Vg4
  have Vgc0 := Vg5.out.c0
  have Vgc1 := Vg5.out.c1
  have Vgc2 := Vg5.out.c2
  go_wp2_with fail
  clear Vgc0 Vgc1 Vgc2
  refine (markT p q Ag cg (v0 + 1) vg ys w6 RG5.out hys).mono ?_
  rintro e w11 ⟨rfl, RGm, hbm⟩
  clear RG5
  have C6 := Lib.hid (C5.out.trans (hbm.out.toBelow (by omega) (lex HXX.out C5.out)))
  have RW6 := Lib.hid (RW5.out.but hbm.out (by omega))
  have V06 := Lib.hid (V05.out.but hbm.out (by omega))
  have Vg6 := Lib.hid (Vg5.out.but hbm.out (by omega))
  clear hbm C5 RW5 V05 Vg5
  have RM6 := RGm
  clear RGm
  have Vgc0 := Vg6.out.c0
  have Vgc1 := Vg6.out.c1
  have Vgc2 := Vg6.out.c2
  go_wp2_with fail
  refine (heldT p q Ag cg (v0 + 1) vg ys.length w11 RM6.out hys).mono ?_
  rintro e w12 ⟨rfl, hb12⟩
  clear Vgc0 Vgc1 Vgc2
  have C7 := Lib.hid (C6.out.trans (hb12.out.mono (lex HXX.out C6.out)))
  have RW7 := Lib.hid (RW6.out.but (ButIn.of hb12.out) (.inr (Nat.zero_le _)))
  have V07 := Lib.hid (V06.out.below hb12.out)
  have Vg7 := Lib.hid (Vg6.out.below hb12.out)
  have RM7 := Lib.hid (RM6.out.but (ButIn.of hb12.out) (.inr (Nat.zero_le _)))
  clear hb12 C6 RW6 V06 Vg6 RM6
  go_wp2_with fail
  refine (HIM.out w12).mono ?_
  rintro e w14 ⟨Ah, ch, rfl, RHx, hb14⟩
  have C8 := Lib.hid (C7.out.trans (hb14.out.mono (lex HXX.out C7.out)))
  have RW8 := Lib.hid (RW7.out.but (ButIn.of hb14.out) (.inr (Nat.zero_le _)))
  have V08 := Lib.hid (V07.out.below hb14.out)
  have Vg8 := Lib.hid (Vg7.out.below hb14.out)
  have RM8 := Lib.hid (RM7.out.but (ButIn.of hb14.out) (.inr (Nat.zero_le _)))
  have RH8 := RHx
  clear hb14 RHx C7 RW7 V07 Vg7 RM7
  have o5 : v0 < w14.heap.size := V08.out.lt
  have V0c0 := V08.out.c0
  have V0c1 := V08.out.c1
  have V0c2 := V08.out.c2
  have hbA : Below w14.heap.size w14 (w14.alloc (.cells #[.int .i64 p, .int .i64 q, .slice Ah ys.length ch] 27)) := (Below.refl _ _).alloc (Nat.le_refl _) _
  have C9 := Lib.hid (C8.out.trans (hbA.mono (lex HXX.out C8.out)))
  have RW9 := Lib.hid (RW8.out.but (ButIn.of hbA) (.inr (Nat.zero_le _)))
  have V09 := Lib.hid (V08.out.below hbA)
  have Vg9 := Lib.hid (Vg8.out.below hbA)
  have RM9 := Lib.hid (RM8.out.but (ButIn.of hbA) (.inr (Nat.zero_le _)))
  have RH9 := Lib.hid (RH8.out.but (ButIn.of hbA) (.inr (Nat.zero_le _)))
  have Vh9 := Lib.hid (varT_new w14 p q Ah ys.length ch 27)
  clear hbA C8 RW8 V08 Vg8 RM8 RH8
  go_wp2_with fail
  clear V0c0 V0c1 V0c2
  generalize w14.alloc (.cells #[.int .i64 p, .int .i64 q, .slice Ah ys.length ch] 27) = a14 at *
  generalize w14.heap.size = vh at *
  refine (eqT p q _ _ _ _ _ _ _ _ ys a14 RH9.out RW9.out hys).mono ?_
  rintro e w15 ⟨rfl, hbe⟩
  have C10 := Lib.hid (C9.out.trans (hbe.out.mono (lex HXX.out C9.out)))
  have RW10 := Lib.hid (RW9.out.but (ButIn.of hbe.out) (.inr (Nat.zero_le _)))
  have V010 := Lib.hid (V09.out.below hbe.out)
  have Vg10 := Lib.hid (Vg9.out.below hbe.out)
  have RM10 := Lib.hid (RM9.out.but (ButIn.of hbe.out) (.inr (Nat.zero_le _)))
  have RH10 := Lib.hid (RH9.out.but (ButIn.of hbe.out) (.inr (Nat.zero_le _)))
  have Vh10 := Lib.hid (Vh9.out.below hbe.out)
  clear hbe C9 RW9 V09 Vg9 RM9 RH9 Vh9
  have Vgc0 := Vg10.out.c0
  have Vgc1 := Vg10.out.c1
  have Vgc2 := Vg10.out.c2
  go_wp2_with fail
  clear Vgc0 Vgc1 Vgc2
  refine (heldT p q Ag cg (v0 + 1) vg ys.length w15 RM10.out hys).mono ?_
  rintro e w16 ⟨rfl, hb16⟩
  have CE := Lib.hid (C10.out.trans (hb16.out.mono (lex HXX.out C10.out)))
  clear hb16
  go_wp2_with fail
  go_ret
  exact ⟨rfl, by rw [HXX.out]; exact CE.out⟩

end Go.Proofs.Ytckhdbnoihieeaa
