/-
  What is proved here: the law FnExactDropsOn, as a walk. Conditions: the sheet is one that a machine can hold.
-/
import Derived.Test.YtckhdbnoihieeaaDsb
import Derived.Test.YtckhdbnoihieeaaOpenT
import Derived.Test.YtckhdbnoihieeaaLsk
import Derived.Test.YtckhdbnoihieeaaTfr
import Derived.Deep.RegionHeld3
namespace Go.Proofs.Ytckhdbnoihieeaa
open Flt Go.RowKit

set_option maxHeartbeats 16000000 in
set_option maxRecDepth 1000000 in
theorem lawDso (x y : Int) (A : Option Addr) (n c : Nat) (zs : List Nat)(cnt steps : Int) (tk lv : Nat) (sd : Int) {w : World} (G : SheetIn w x y A n zs) :
    Calls Try.prog 6 #[.agg #[.int .i64 x, .int .i64 y, .slice A n c], .int .i64 cnt, .int .i64 steps, .float .f32 tk, .float .f32 lv, .int .i64 sd] w fun e w' => e = .returned (.bool true) ∧ Below w.heap.size w w' := by
  obtain ⟨hr, hsz, hN, hwx, hwy⟩ := G
  subst hsz
  have B0 : Below w.heap.size w (w.alloc (.cells #[.int .i64 x, .int .i64 y, .slice A zs.length c] 24)) := (Below.refl _ _).alloc (Nat.le_refl _) _
  have HV := Lib.hid (varT_new w x y A zs.length c 24)
  have HZ := Lib.hid (szSheet_is x y A zs.length c 1048576 (Nat.le_refl _) hN (w.alloc (.cells #[.int .i64 x, .int .i64 y, .slice A zs.length c] 24)))
  have HS0 : Hid (0 ≤ szN zs.length 1048576 → zs.length ≤ 1048576) := fun h => szN_lt (by omega)
  have HR := Lib.hid hr
  have HB := Lib.hid B0
  have HX : Hid (w.heap.size < (w.alloc (.cells #[.int .i64 x, .int .i64 y, .slice A zs.length c] 24)).heap.size) := by show _ < _; simp
  have HBO := Lib.hid (fun hn : zs.length ≤ 1048576 => dsoBoth x y cnt steps sd zs tk lv hn)
  clear hr B0 hN hwx hwy
  generalize szN zs.length 1048576 = r at *
  go_enter Try.func6, Try.ntmps6
  go_wp2_with fail
  generalize w.alloc (.cells #[.int .i64 x, .int .i64 y, .slice A zs.length c] 24) = a0 at *
  generalize hX : w.heap.size = X at *
  have HXX := Lib.hid hX
  clear hX
  refine HZ.out.mono ?_
  rintro e w1 ⟨rfl, hb⟩
  have C0 : Hid (Below X w w1) := HB.out.trans (hb.mono (Nat.le_of_lt HX.out))
  have Va0 := Lib.hid (HV.out.below hb)
  have R0 : Hid (RowF w1 X A zs) := HR.out.below C0.out
  clear hb HZ HB HV HX HR
  by_cases hr0 : r < 0
  · go_wp2_with fail
    go_ret
    exact ⟨rfl, by rw [HXX.out]; exact C0.out⟩
  have hr1 : 0 ≤ r := by omega
  have hn := HS0.out hr1
  obtain ⟨p, q, ys, s, b, hys, hS, hI⟩ := HBO.out hn
  have HSP := Lib.hid hS
  have HIM := Lib.hid hI
  clear hr0 HS0 hS hI HBO
  have Vac0 := Va0.out.c0
  have Vac1 := Va0.out.c1
  have Vac2 := Va0.out.c2
  have T := Lib.hid (toSheet_is x y A c zs w1 (R0.out.mono (lex HXX.out C0.out)) hn)
  go_wp2_with fail
  refine T.out.mono ?_
  rintro e w2 ⟨g2, rfl, _, O2, hb2⟩
  have C1 := Lib.hid (C0.out.trans (hb2.out.mono (lex HXX.out C0.out)))
  have Va1 := Lib.hid (Va0.out.below hb2.out)
  have R1 := Lib.hid (R0.out.butIn (ButIn.of hb2.out) (lex HXX.out C0.out) (.inr rfl))
  clear T hb2 Vac0 Vac1 Vac2 C0 Va0 R0
  go_wp2_with fail
  refine (HSP.out w2 _ _ O2.out).mono ?_
  rintro e w3 ⟨Aw, cw, rfl, RWx, hb3⟩
  have C2 := Lib.hid (C1.out.trans (hb3.out.mono (lex HXX.out C1.out)))
  have Va2 := Lib.hid (Va1.out.below hb3.out)
  have R2 := Lib.hid (R1.out.butIn (ButIn.of hb3.out) (lex HXX.out C1.out) (.inr rfl))
  have RW2 : Hid (RowIn w3 (X + 1) w3.heap.size Aw ys) := RWx.out.lower (Nat.succ_le_of_lt Va1.out.lt)
  clear hb3 RWx O2 C1 Va1 R1
  have o1 : X < w3.heap.size := Va2.out.lt
  have Vac0 := Va2.out.c0
  have Vac1 := Va2.out.c1
  have Vac2 := Va2.out.c2
  have hbA : Below w3.heap.size w3 (w3.alloc (.cells #[.int .i64 p, .int .i64 q, .slice Aw ys.length cw] 27)) := (Below.refl _ _).alloc (Nat.le_refl _) _
  have C3 := Lib.hid (C2.out.trans (hbA.mono (lex HXX.out C2.out)))
  have Va3 := Lib.hid (Va2.out.below hbA)
  have R3 := Lib.hid (R2.out.butIn (ButIn.of hbA) (lex HXX.out C2.out) (.inr rfl))
  have RW3 := Lib.hid (RW2.out.but (ButIn.of hbA) (.inr (Nat.zero_le _)))
  have V03 := Lib.hid (varT_new w3 p q Aw ys.length cw 27)
  clear hbA C2 Va2 R2 RW2
  go_wp2_with fail
  clear Vac0 Vac1 Vac2
  generalize w3.alloc (.cells #[.int .i64 p, .int .i64 q, .slice Aw ys.length cw] 27) = a3 at *
  generalize w3.heap.size = v0 at *
  refine (toSheetO x y A c zs a3 (R3.out.mono (lex HXX.out C3.out)) hn).mono ?_
  rintro e w4 ⟨Ax, cx, rfl, RXx, hb4⟩
  have C4 := Lib.hid (C3.out.trans (hb4.out.mono (lex HXX.out C3.out)))
  have Va4 := Lib.hid (Va3.out.below hb4.out)
  have R4 := Lib.hid (R3.out.butIn (ButIn.of hb4.out) (lex HXX.out C3.out) (.inr rfl))
  have RW4 := Lib.hid (RW3.out.but (ButIn.of hb4.out) (.inr (Nat.zero_le _)))
  have V04 := Lib.hid (V03.out.below hb4.out)
  have RX4 : Hid (RowIn w4 (v0 + 1) w4.heap.size Ax zs) := RXx.out.lower (Nat.succ_le_of_lt V03.out.lt)
  clear hb4 RXx C3 Va3 R3 RW3 V03
  have o2 : v0 < w4.heap.size := V04.out.lt
  have hbA : Below w4.heap.size w4 (w4.alloc (.cells #[.int .i64 x, .int .i64 y, .slice Ax zs.length cx] 27)) := (Below.refl _ _).alloc (Nat.le_refl _) _
  have C5 := Lib.hid (C4.out.trans (hbA.mono (lex HXX.out C4.out)))
  have Va5 := Lib.hid (Va4.out.below hbA)
  have R5 := Lib.hid (R4.out.butIn (ButIn.of hbA) (lex HXX.out C4.out) (.inr rfl))
  have RW5 := Lib.hid (RW4.out.but (ButIn.of hbA) (.inr (Nat.zero_le _)))
  have V05 := Lib.hid (V04.out.below hbA)
  have RX5 := Lib.hid (RX4.out.but (ButIn.of hbA) (.inr (Nat.zero_le _)))
  have Vx5 := Lib.hid (varT_new w4 x y Ax zs.length cx 27)
  clear hbA C4 Va4 R4 RW4 V04 RX4
  go_wp2_with fail
  generalize w4.alloc (.cells #[.int .i64 x, .int .i64 y, .slice Ax zs.length cx] 27) = a4 at *
  generalize w4.heap.size = vx at *
  refine (HIM.out a4 _ _ RX5.out.toRow).mono ?_
  rintro e w5 ⟨Ag, cg, rfl, RGx, hb5⟩
  have C6 := Lib.hid (C5.out.trans (hb5.out.mono (lex HXX.out C5.out)))
  have Va6 := Lib.hid (Va5.out.below hb5.out)
  have R6 := Lib.hid (R5.out.butIn (ButIn.of hb5.out) (lex HXX.out C5.out) (.inr rfl))
  have RW6 := Lib.hid (RW5.out.but (ButIn.of hb5.out) (.inr (Nat.zero_le _)))
  have V06 := Lib.hid (V05.out.below hb5.out)
  have RX6 := Lib.hid (RX5.out.but (ButIn.of hb5.out) (.inr (Nat.zero_le _)))
  have Vx6 := Lib.hid (Vx5.out.below hb5.out)
  have RG6 : Hid (RowIn w5 (vx + 1) w5.heap.size Ag ys) := RGx.out.lower (Nat.succ_le_of_lt Vx5.out.lt)
  clear hb5 RGx C5 Va5 R5 RW5 V05 RX5 Vx5
  have o3 : vx < w5.heap.size := Vx6.out.lt
  have o4 : v0 < w5.heap.size := V06.out.lt
  have V0c0 := V06.out.c0
  have V0c1 := V06.out.c1
  have V0c2 := V06.out.c2
  have hbA : Below w5.heap.size w5 (w5.alloc (.cells #[.int .i64 p, .int .i64 q, .slice Ag ys.length cg] 27)) := (Below.refl _ _).alloc (Nat.le_refl _) _
  have C7 := Lib.hid (C6.out.trans (hbA.mono (lex HXX.out C6.out)))
  have Va7 := Lib.hid (Va6.out.below hbA)
  have R7 := Lib.hid (R6.out.butIn (ButIn.of hbA) (lex HXX.out C6.out) (.inr rfl))
  have RW7 := Lib.hid (RW6.out.but (ButIn.of hbA) (.inr (Nat.zero_le _)))
  have V07 := Lib.hid (V06.out.below hbA)
  have RX7 := Lib.hid (RX6.out.but (ButIn.of hbA) (.inr (Nat.zero_le _)))
  have Vx7 := Lib.hid (Vx6.out.below hbA)
  have RG7 := Lib.hid (RG6.out.but (ButIn.of hbA) (.inr (Nat.zero_le _)))
  have Vg7 := Lib.hid (varT_new w5 p q Ag ys.length cg 27)
  clear hbA C6 Va6 R6 RW6 V06 RX6 Vx6 RG6
  go_wp2_with fail
  clear V0c0 V0c1 V0c2
  generalize w5.alloc (.cells #[.int .i64 p, .int .i64 q, .slice Ag ys.length cg] 27) = a5 at *
  generalize w5.heap.size = vg at *
  refine (eqT p q _ _ _ _ _ _ _ _ ys a5 RG7.out RW7.out hys).mono ?_
  rintro e w6 ⟨rfl, hbe⟩
  have C8 := Lib.hid (C7.out.trans (hbe.out.mono (lex HXX.out C7.out)))
  have Va8 := Lib.hid (Va7.out.below hbe.out)
  have R8 := Lib.hid (R7.out.butIn (ButIn.of hbe.out) (lex HXX.out C7.out) (.inr rfl))
  have RW8 := Lib.hid (RW7.out.but (ButIn.of hbe.out) (.inr (Nat.zero_le _)))
  have V08 := Lib.hid (V07.out.below hbe.out)
  have RX8 := Lib.hid (RX7.out.but (ButIn.of hbe.out) (.inr (Nat.zero_le _)))
  have Vx8 := Lib.hid (Vx7.out.below hbe.out)
  have RG8 := Lib.hid (RG7.out.but (ButIn.of hbe.out) (.inr (Nat.zero_le _)))
  have Vg8 := Lib.hid (Vg7.out.below hbe.out)
  clear hbe C7 Va7 R7 RW7 V07 RX7 Vx7 RG7 Vg7
  have Vxc0 := Vx8.out.c0
  have Vxc1 := Vx8.out.c1
  have Vxc2 := Vx8.out.c2
  have Vac0 := Va8.out.c0
  have Vac1 := Va8.out.c1
  have Vac2 := Va8.out.c2
  go_wp2_with fail
  clear Vxc0 Vxc1 Vxc2 Vac0 Vac1 Vac2
  have Vxc0 := Vx8.out.c0
  have Vxc1 := Vx8.out.c1
  have Vxc2 := Vx8.out.c2
  have Vac0 := Va8.out.c0
  have Vac1 := Va8.out.c1
  have Vac2 := Va8.out.c2
  have hR6 : Hid (RowF w6 w6.heap.size A zs) := R8.out.mono (lex HXX.out C8.out)
  have hX6 := Lib.hid RX8.out.toRow
  have x6 : X < w6.heap.size := Va8.out.lt
  have y6 : vx < w6.heap.size := Vx8.out.lt
  have K0 : Hid (Below w6.heap.size w6 w6.drew) := (Below.refl _ _).drew
  go_region_held3 (fun w' => w'.cell? ⟨vx, 0, none⟩ = some (.int .i64 x) ∧ w'.cell? ⟨vx, 1, none⟩ = some (.int .i64 y) ∧ w'.cell? ⟨vx, 2, none⟩ = some (.slice Ax zs.length cx) ∧ w'.cell? ⟨X, 0, none⟩ = some (.int .i64 x) ∧ w'.cell? ⟨X, 1, none⟩ = some (.int .i64 y) ∧ w'.cell? ⟨X, 2, none⟩ = some (.slice A zs.length c) ∧ Hid (Below w6.heap.size w6 w')) (first | (exact ⟨by assumption, by assumption, by assumption, by assumption, by assumption, by assumption, by assumption⟩) | go_keep)
    (first
      | ((go_at_call 13; refine (toSheet_is x y A c zs _ (hR6.out.carry ((‹Hid (Below w6.heap.size w6 _)›).out)) hn).mono ?_; rintro e w7 ⟨g7, rfl, _, O7, hb7⟩; have K7 := Lib.hid ((‹Hid (Below w6.heap.size w6 _)›).out.trans (hb7.out.mono (‹Hid (Below w6.heap.size w6 _)›).out.size)); obtain ⟨e0, e1, e2⟩ := keepT (v := X) hb7.out (by assumption) (by assumption) (by assumption) (by assumption) x6; obtain ⟨f0, f1, f2⟩ := keepT (v := vx) hb7.out (by assumption) (by assumption) (by assumption) (by assumption) y6))
      | ((go_at_call 15; refine (eqSheet_is x y _ _ _ _ zs _ _ (Nat.le_refl _) (hX6.out.carry ((‹Hid (Below w6.heap.size w6 _)›).out)) (‹Hid (RowF _ _ _ zs)›).out hn).mono ?_; rintro e w8 ⟨rfl, hb8⟩; have K8 := Lib.hid ((‹Hid (Below w6.heap.size w6 _)›).out.trans (hb8.out.mono (‹Hid (Below w6.heap.size w6 _)›).out.size)); obtain ⟨e0, e1, e2⟩ := keepT (v := X) hb8.out (by assumption) (by assumption) (by assumption) (by assumption) x6; obtain ⟨f0, f1, f2⟩ := keepT (v := vx) hb8.out (by assumption) (by assumption) (by assumption) (by assumption) y6)))
  have hb9 := Lib.hid ((‹Hid (Below w6.heap.size w6 w8)›).out)
  clear Vxc0 Vxc1 Vxc2 Vac0 Vac1 Vac2 hR6 hX6 x6 y6 K0
  have C9 := Lib.hid (C8.out.trans (hb9.out.mono (lex HXX.out C8.out)))
  have Va9 := Lib.hid (Va8.out.below hb9.out)
  have R9 := Lib.hid (R8.out.butIn (ButIn.of hb9.out) (lex HXX.out C8.out) (.inr rfl))
  have RW9 := Lib.hid (RW8.out.but (ButIn.of hb9.out) (.inr (Nat.zero_le _)))
  have V09 := Lib.hid (V08.out.below hb9.out)
  have RX9 := Lib.hid (RX8.out.but (ButIn.of hb9.out) (.inr (Nat.zero_le _)))
  have Vx9 := Lib.hid (Vx8.out.below hb9.out)
  have RG9 := Lib.hid (RG8.out.but (ButIn.of hb9.out) (.inr (Nat.zero_le _)))
  have Vg9 := Lib.hid (Vg8.out.below hb9.out)
  clear hb9 C8 Va8 R8 RW8 V08 RX8 Vx8 RG8 Vg8
  have Vxc0 := Vx9.out.c0
  have Vxc1 := Vx9.out.c1
  have Vxc2 := Vx9.out.c2
  go_wp2_with fail
  refine (markT x y Ax cx (v0 + 1) vx zs w8 RX9.out hn).mono ?_
  rintro e w9 ⟨rfl, _, hbm⟩
  clear Vxc0 Vxc1 Vxc2
  clear RX9
  have C10 := Lib.hid (C9.out.trans (hbm.out.toBelow (by omega) (lex HXX.out C9.out)))
  have Va10 := Lib.hid (Va9.out.but hbm.out (by omega))
  have R10 := Lib.hid (R9.out.butIn hbm.out (lex HXX.out C9.out) (.inl (by omega)))
  have RW10 := Lib.hid (RW9.out.but hbm.out (by omega))
  have V010 := Lib.hid (V09.out.but hbm.out (by omega))
  have Vx10 := Lib.hid (Vx9.out.but hbm.out (by omega))
  have RG10 := Lib.hid (RG9.out.but hbm.out (by omega))
  have Vg10 := Lib.hid (Vg9.out.but hbm.out (by omega))
  clear hbm C9 Va9 R9 RW9 V09 Vx9 RG9 Vg9
  have Vgc0 := Vg10.out.c0
  have Vgc1 := Vg10.out.c1
  have Vgc2 := Vg10.out.c2
  have V0c0 := V010.out.c0
  have V0c1 := V010.out.c1
  have V0c2 := V010.out.c2
  go_wp2_with fail
  clear Vgc0 Vgc1 Vgc2 V0c0 V0c1 V0c2
  refine (eqT p q _ _ _ _ _ _ _ _ ys w9 RG10.out RW10.out hys).mono ?_
  rintro e w10 ⟨rfl, hbe⟩
  have C11 := Lib.hid (C10.out.trans (hbe.out.mono (lex HXX.out C10.out)))
  have Va11 := Lib.hid (Va10.out.below hbe.out)
  have R11 := Lib.hid (R10.out.butIn (ButIn.of hbe.out) (lex HXX.out C10.out) (.inr rfl))
  have RW11 := Lib.hid (RW10.out.but (ButIn.of hbe.out) (.inr (Nat.zero_le _)))
  have V011 := Lib.hid (V010.out.below hbe.out)
  have Vx11 := Lib.hid (Vx10.out.below hbe.out)
  have RG11 := Lib.hid (RG10.out.but (ButIn.of hbe.out) (.inr (Nat.zero_le _)))
  have Vg11 := Lib.hid (Vg10.out.below hbe.out)
  clear hbe C10 Va10 R10 RW10 V010 Vx10 RG10 Vg10
  have Vgc0 := Vg11.out.c0
  have Vgc1 := Vg11.out.c1
  have Vgc2 := Vg11.out.c2
  go_wp2_with fail
  clear Vgc0 Vgc1 Vgc2
  refine (markT p q Ag cg (vx + 1) vg ys w10 RG11.out hys).mono ?_
  rintro e w11 ⟨rfl, RGm, hbm⟩
  clear RG11
  have C12 := Lib.hid (C11.out.trans (hbm.out.toBelow (by omega) (lex HXX.out C11.out)))
  have Va12 := Lib.hid (Va11.out.but hbm.out (by omega))
  have R12 := Lib.hid (R11.out.butIn hbm.out (lex HXX.out C11.out) (.inl (by omega)))
  have RW12 := Lib.hid (RW11.out.but hbm.out (by omega))
  have V012 := Lib.hid (V011.out.but hbm.out (by omega))
  have Vx12 := Lib.hid (Vx11.out.but hbm.out (by omega))
  have Vg12 := Lib.hid (Vg11.out.but hbm.out (by omega))
  clear hbm C11 Va11 R11 RW11 V011 Vx11 Vg11
  have RM12 := RGm
  clear RGm
  have Vgc0 := Vg12.out.c0
  have Vgc1 := Vg12.out.c1
  have Vgc2 := Vg12.out.c2
  go_wp2_with fail
  refine (heldT p q Ag cg (vx + 1) vg ys.length w11 RM12.out hys).mono ?_
  rintro e w12 ⟨rfl, hb12⟩
  clear Vgc0 Vgc1 Vgc2
  have C13 := Lib.hid (C12.out.trans (hb12.out.mono (lex HXX.out C12.out)))
  have Va13 := Lib.hid (Va12.out.below hb12.out)
  have R13 := Lib.hid (R12.out.butIn (ButIn.of hb12.out) (lex HXX.out C12.out) (.inr rfl))
  have RW13 := Lib.hid (RW12.out.but (ButIn.of hb12.out) (.inr (Nat.zero_le _)))
  have V013 := Lib.hid (V012.out.below hb12.out)
  have Vx13 := Lib.hid (Vx12.out.below hb12.out)
  have Vg13 := Lib.hid (Vg12.out.below hb12.out)
  have RM13 := Lib.hid (RM12.out.but (ButIn.of hb12.out) (.inr (Nat.zero_le _)))
  clear hb12 C12 Va12 R12 RW12 V012 Vx12 Vg12 RM12
  have Vac0 := Va13.out.c0
  have Vac1 := Va13.out.c1
  have Vac2 := Va13.out.c2
  have T := Lib.hid (toSheet_is x y A c zs w12 (R13.out.mono (lex HXX.out C13.out)) hn)
  go_wp2_with fail
  refine T.out.mono ?_
  rintro e w13 ⟨g13, rfl, _, O13, hb13⟩
  clear T Vac0 Vac1 Vac2
  have C14 := Lib.hid (C13.out.trans (hb13.out.mono (lex HXX.out C13.out)))
  have Va14 := Lib.hid (Va13.out.below hb13.out)
  have R14 := Lib.hid (R13.out.butIn (ButIn.of hb13.out) (lex HXX.out C13.out) (.inr rfl))
  have RW14 := Lib.hid (RW13.out.but (ButIn.of hb13.out) (.inr (Nat.zero_le _)))
  have V014 := Lib.hid (V013.out.below hb13.out)
  have Vx14 := Lib.hid (Vx13.out.below hb13.out)
  have Vg14 := Lib.hid (Vg13.out.below hb13.out)
  have RM14 := Lib.hid (RM13.out.but (ButIn.of hb13.out) (.inr (Nat.zero_le _)))
  clear hb13 C13 Va13 R13 RW13 V013 Vx13 Vg13 RM13
  go_wp2_with fail
  refine (HIM.out w13 _ _ O13.out).mono ?_
  rintro e w14 ⟨Ah, ch, rfl, RHx, hb14⟩
  have C15 := Lib.hid (C14.out.trans (hb14.out.mono (lex HXX.out C14.out)))
  have Va15 := Lib.hid (Va14.out.below hb14.out)
  have R15 := Lib.hid (R14.out.butIn (ButIn.of hb14.out) (lex HXX.out C14.out) (.inr rfl))
  have RW15 := Lib.hid (RW14.out.but (ButIn.of hb14.out) (.inr (Nat.zero_le _)))
  have V015 := Lib.hid (V014.out.below hb14.out)
  have Vx15 := Lib.hid (Vx14.out.below hb14.out)
  have Vg15 := Lib.hid (Vg14.out.below hb14.out)
  have RM15 := Lib.hid (RM14.out.but (ButIn.of hb14.out) (.inr (Nat.zero_le _)))
  have RH15 := RHx
  clear hb14 RHx C14 Va14 R14 RW14 V014 Vx14 Vg14 RM14
  have o5 : v0 < w14.heap.size := V015.out.lt
  have V0c0 := V015.out.c0
  have V0c1 := V015.out.c1
  have V0c2 := V015.out.c2
  have hbA : Below w14.heap.size w14 (w14.alloc (.cells #[.int .i64 p, .int .i64 q, .slice Ah ys.length ch] 27)) := (Below.refl _ _).alloc (Nat.le_refl _) _
  have C16 := Lib.hid (C15.out.trans (hbA.mono (lex HXX.out C15.out)))
  have Va16 := Lib.hid (Va15.out.below hbA)
  have R16 := Lib.hid (R15.out.butIn (ButIn.of hbA) (lex HXX.out C15.out) (.inr rfl))
  have RW16 := Lib.hid (RW15.out.but (ButIn.of hbA) (.inr (Nat.zero_le _)))
  have V016 := Lib.hid (V015.out.below hbA)
  have Vx16 := Lib.hid (Vx15.out.below hbA)
  have Vg16 := Lib.hid (Vg15.out.below hbA)
  have RM16 := Lib.hid (RM15.out.but (ButIn.of hbA) (.inr (Nat.zero_le _)))
  have RH16 := Lib.hid (RH15.out.but (ButIn.of hbA) (.inr (Nat.zero_le _)))
  have Vh16 := Lib.hid (varT_new w14 p q Ah ys.length ch 27)
  clear hbA C15 Va15 R15 RW15 V015 Vx15 Vg15 RM15 RH15
  go_wp2_with fail
  clear V0c0 V0c1 V0c2
  generalize w14.alloc (.cells #[.int .i64 p, .int .i64 q, .slice Ah ys.length ch] 27) = a14 at *
  generalize w14.heap.size = vh at *
  refine (eqT p q _ _ _ _ _ _ _ _ ys a14 RH16.out RW16.out hys).mono ?_
  rintro e w15 ⟨rfl, hbe⟩
  have C17 := Lib.hid (C16.out.trans (hbe.out.mono (lex HXX.out C16.out)))
  have Va17 := Lib.hid (Va16.out.below hbe.out)
  have R17 := Lib.hid (R16.out.butIn (ButIn.of hbe.out) (lex HXX.out C16.out) (.inr rfl))
  have RW17 := Lib.hid (RW16.out.but (ButIn.of hbe.out) (.inr (Nat.zero_le _)))
  have V017 := Lib.hid (V016.out.below hbe.out)
  have Vx17 := Lib.hid (Vx16.out.below hbe.out)
  have Vg17 := Lib.hid (Vg16.out.below hbe.out)
  have RM17 := Lib.hid (RM16.out.but (ButIn.of hbe.out) (.inr (Nat.zero_le _)))
  have RH17 := Lib.hid (RH16.out.but (ButIn.of hbe.out) (.inr (Nat.zero_le _)))
  have Vh17 := Lib.hid (Vh16.out.below hbe.out)
  clear hbe C16 Va16 R16 RW16 V016 Vx16 Vg16 RM16 RH16 Vh16
  have Vgc0 := Vg17.out.c0
  have Vgc1 := Vg17.out.c1
  have Vgc2 := Vg17.out.c2
  go_wp2_with fail
  clear Vgc0 Vgc1 Vgc2
  refine (heldT p q Ag cg (vx + 1) vg ys.length w15 RM17.out hys).mono ?_
  rintro e w16 ⟨rfl, hb16⟩
  have CE := Lib.hid (C17.out.trans (hb16.out.mono (lex HXX.out C17.out)))
  clear hb16
  go_wp2_with fail
  go_ret
  exact ⟨rfl, by rw [HXX.out]; exact CE.out⟩

end Go.Proofs.Ytckhdbnoihieeaa
