/-
  What is proved here: the law FnExactContourOf, as a walk. Conditions: the sheet is one that a machine can hold.
-/
import Derived.Test.YtfjahgojmiednaaCtr
import Derived.Test.YtfjahgojmiednaaOpenT
import Derived.Test.YtfjahgojmiednaaLsk
import Derived.Test.YtfjahgojmiednaaTfr
import Derived.Deep.RegionHeld3
namespace Go.Proofs.Ytfjahgojmiednaa
open Flt Go.RowKit

set_option maxHeartbeats 16000000 in
set_option maxRecDepth 1000000 in
theorem lawCtr (x y : Int) (A : Option Addr) (n c : Nat) (zs : List Nat)(lv : Nat) {w : World} (G : SheetIn w x y A n zs) :
    Calls Try.prog 6 #[.agg #[.int .i64 x, .int .i64 y, .slice A n c], .float .f32 lv] w fun e w' => e = .returned (.bool true) ∧ Below w.heap.size w w' := by
  obtain ⟨hr, hsz, hN, hwx, hwy⟩ := G
  subst hsz
  have B0 : Below w.heap.size w (w.alloc (.cells #[.int .i64 x, .int .i64 y, .slice A zs.length c] 24)) := (Below.refl _ _).alloc (Nat.le_refl _) _
  have HV := Lib.hid (varT_new w x y A zs.length c 24)
  have HZ := Lib.hid (szSheet_is x y A zs.length c 1048576 (Nat.le_refl _) hN (w.alloc (.cells #[.int .i64 x, .int .i64 y, .slice A zs.length c] 24)))
  have HS0 : Hid (0 ≤ szN zs.length 1048576 → zs.length ≤ 1048576) := fun h => szN_lt (by omega)
  have HR := Lib.hid hr
  have HB := Lib.hid B0
  have HX : Hid (w.heap.size < (w.alloc (.cells #[.int .i64 x, .int .i64 y, .slice A zs.length c] 24)).heap.size) := by show _ < _; simp
  have HBO := Lib.hid (fun hn : zs.length ≤ 1048576 => ctrBoth x y lv zs hn)
  clear hr B0 hN hwx hwy
  generalize szN zs.length 1048576 = r at *
  go_enter Try.func6, Try.ntmps6
  go_wp2_with fail
  generalize w.alloc (.cells #[.int .i64 x, .int .i64 y, .slice A zs.length c] 24) = a0 at *
  generalize hX : w.heap.size = X at *
  have HXX := Lib.hid hX
  clear hX
  refine HZ.out.mono ?_
  rintro e w1 ⟨rfl, hb⟩
  have C0 : Hid (Below X w w1) := HB.out.trans (hb.mono (Nat.le_of_lt HX.out))
  have Va0 := Lib.hid (HV.out.below hb)
  have R0 : Hid (RowF w1 X A zs) := HR.out.below C0.out
  clear hb HZ HB HV HX HR
  by_cases hr0 : r < 0
  · go_wp2_with fail
    go_ret
    exact ⟨rfl, by rw [HXX.out]; exact C0.out⟩
  have hr1 : 0 ≤ r := by omega
  have hn := HS0.out hr1
  obtain ⟨ys, b, hys, hS, hI⟩ := HBO.out hn
  have HSP := Lib.hid hS
  have HIM := Lib.hid hI
  clear hr0 HS0 hS hI HBO
  have Vac0 := Va0.out.c0
  have Vac1 := Va0.out.c1
  have Vac2 := Va0.out.c2
  have T := Lib.hid (toSheet_is x y A c zs w1 (R0.out.mono (lex HXX.out C0.out)) hn)
  go_wp2_with fail
  refine T.out.mono ?_
  rintro e w2 ⟨g2, rfl, _, O2, hb2⟩
  have C1 := Lib.hid (C0.out.trans (hb2.out.mono (lex HXX.out C0.out)))
  have Va1 := Lib.hid (Va0.out.below hb2.out)
  have R1 := Lib.hid (R0.out.butIn (ButIn.of hb2.out) (lex HXX.out C0.out) (.inr rfl))
  clear T hb2 Vac0 Vac1 Vac2 C0 Va0 R0
  go_wp2_with fail
  refine (HSP.out w2 _ _ O2.out).mono ?_
  rintro e w3 ⟨Aw, cw, rfl, RWx, hb3⟩
  have C2 := Lib.hid (C1.out.trans (hb3.out.mono (lex HXX.out C1.out)))
  have Va2 := Lib.hid (Va1.out.below hb3.out)
  have R2 := Lib.hid (R1.out.butIn (ButIn.of hb3.out) (lex HXX.out C1.out) (.inr rfl))
  have RW2 : Hid (RowCI w3 (X + 1) w3.heap.size Aw ys) := RWx.out.lower (Nat.succ_le_of_lt Va1.out.lt)
  clear hb3 RWx O2 C1 Va1 R1
  have o1 : X < w3.heap.size := Va2.out.lt
  have Vac0 := Va2.out.c0
  have Vac1 := Va2.out.c1
  have Vac2 := Va2.out.c2
  go_wp2_with fail
  clear Vac0 Vac1 Vac2
  refine (toSheetO x y A c zs w3 (R2.out.mono (lex HXX.out C2.out)) hn).mono ?_
  rintro e w4 ⟨Ax, cx, rfl, RXx, hb4⟩
  have C3 := Lib.hid (C2.out.trans (hb4.out.mono (lex HXX.out C2.out)))
  have Va3 := Lib.hid (Va2.out.below hb4.out)
  have R3 := Lib.hid (R2.out.butIn (ButIn.of hb4.out) (lex HXX.out C2.out) (.inr rfl))
  have RW3 := Lib.hid (RW2.out.but (ButIn.of hb4.out) (.inr (Nat.zero_le _)))
  have RX3 : Hid (RowIn w4 w3.heap.size w4.heap.size Ax zs) := RXx.out.lower (Nat.le_refl _)
  have hk34 : w3.heap.size ≤ w4.heap.size := hb4.out.size
  clear hb4 RXx C2 Va2 R2 RW2
  generalize w3.heap.size = v0 at *
  have hbA : Below w4.heap.size w4 (w4.alloc (.cells #[.int .i64 x, .int .i64 y, .slice Ax zs.length cx] 29)) := (Below.refl _ _).alloc (Nat.le_refl _) _
  have C4 := Lib.hid (C3.out.trans (hbA.mono (lex HXX.out C3.out)))
  have Va4 := Lib.hid (Va3.out.below hbA)
  have R4 := Lib.hid (R3.out.butIn (ButIn.of hbA) (lex HXX.out C3.out) (.inr rfl))
  have RW4 := Lib.hid (RW3.out.but (ButIn.of hbA) (.inr (Nat.zero_le _)))
  have RX4 := Lib.hid (RX3.out.but (ButIn.of hbA) (.inr (Nat.zero_le _)))
  have Vx4 := Lib.hid (varT_new w4 x y Ax zs.length cx 29)
  clear hbA C3 Va3 R3 RW3 RX3
  go_wp2_with fail
  generalize w4.alloc (.cells #[.int .i64 x, .int .i64 y, .slice Ax zs.length cx] 29) = a4 at *
  generalize w4.heap.size = vx at *
  refine (HIM.out a4 _ _ RX4.out.toRow).mono ?_
  rintro e w5 ⟨Ag, cg, rfl, RGx, hb5⟩
  have C5 := Lib.hid (C4.out.trans (hb5.out.mono (lex HXX.out C4.out)))
  have Va5 := Lib.hid (Va4.out.below hb5.out)
  have R5 := Lib.hid (R4.out.butIn (ButIn.of hb5.out) (lex HXX.out C4.out) (.inr rfl))
  have RW5 := Lib.hid (RW4.out.but (ButIn.of hb5.out) (.inr (Nat.zero_le _)))
  have RX5 := Lib.hid (RX4.out.but (ButIn.of hb5.out) (.inr (Nat.zero_le _)))
  have Vx5 := Lib.hid (Vx4.out.below hb5.out)
  have RG5 : Hid (RowCI w5 (vx + 1) w5.heap.size Ag ys) := RGx.out.lower (Nat.succ_le_of_lt Vx4.out.lt)
  clear hb5 RGx C4 Va4 R4 RW4 RX4 Vx4
  have o3 : vx < w5.heap.size := Vx5.out.lt
  go_wp2_with fail
  generalize hvg : w5.heap.size = vg at *
  have HVG := Lib.hid hvg
  clear hvg
  refine (eqD _ _ _ _ _ _ _ _ ys w5 RG5.out RW5.out hys).mono ?_
  rintro e w6 ⟨rfl, hbe⟩
  have C6 := Lib.hid (C5.out.trans (hbe.out.mono (lex HXX.out C5.out)))
  have Va6 := Lib.hid (Va5.out.below hbe.out)
  have R6 := Lib.hid (R5.out.butIn (ButIn.of hbe.out) (lex HXX.out C5.out) (.inr rfl))
  have RW6 := Lib.hid (RW5.out.but (ButIn.of hbe.out) (.inr (Nat.zero_le _)))
  have RX6 := Lib.hid (RX5.out.but (ButIn.of hbe.out) (.inr (Nat.zero_le _)))
  have Vx6 := Lib.hid (Vx5.out.below hbe.out)
  have RG6 := Lib.hid (RG5.out.but (ButIn.of hbe.out) (.inr (Nat.zero_le _)))
  clear hbe C5 Va5 R5 RW5 RX5 Vx5 RG5
  have Vxc0 := Vx6.out.c0
  have Vxc1 := Vx6.out.c1
  have Vxc2 := Vx6.out.c2
  have Vac0 := Va6.out.c0
  have Vac1 := Va6.out.c1
  have Vac2 := Va6.out.c2
  go_wp2_with fail
  clear Vxc0 Vxc1 Vxc2 Vac0 Vac1 Vac2
  have Vxc0 := Vx6.out.c0
  have Vxc1 := Vx6.out.c1
  have Vxc2 := Vx6.out.c2
  have Vac0 := Va6.out.c0
  have Vac1 := Va6.out.c1
  have Vac2 := Va6.out.c2
  have hR6 : Hid (RowF w6 w6.heap.size A zs) := R6.out.mono (lex HXX.out C6.out)
  have hX6 := Lib.hid RX6.out.toRow
  have x6 : X < w6.heap.size := Va6.out.lt
  have y6 : vx < w6.heap.size := Vx6.out.lt
  have K0 : Hid (Below w6.heap.size w6 w6.drew) := (Below.refl _ _).drew
  go_region_held3 (fun w' => w'.cell? ⟨vx, 0, none⟩ = some (.int .i64 x) ∧ w'.cell? ⟨vx, 1, none⟩ = some (.int .i64 y) ∧ w'.cell? ⟨vx, 2, none⟩ = some (.slice Ax zs.length cx) ∧ w'.cell? ⟨X, 0, none⟩ = some (.int .i64 x) ∧ w'.cell? ⟨X, 1, none⟩ = some (.int .i64 y) ∧ w'.cell? ⟨X, 2, none⟩ = some (.slice A zs.length c) ∧ Hid (Below w6.heap.size w6 w')) (first | (exact ⟨by assumption, by assumption, by assumption, by assumption, by assumption, by assumption, by assumption⟩) | go_keep)
    (first
      | ((go_at_call 11; refine (toSheet_is x y A c zs _ (hR6.out.carry ((‹Hid (Below w6.heap.size w6 _)›).out)) hn).mono ?_; rintro e w7 ⟨g7, rfl, _, O7, hb7⟩; have K7 := Lib.hid ((‹Hid (Below w6.heap.size w6 _)›).out.trans (hb7.out.mono (‹Hid (Below w6.heap.size w6 _)›).out.size)); obtain ⟨e0, e1, e2⟩ := keepT (v := X) hb7.out (by assumption) (by assumption) (by assumption) (by assumption) x6; obtain ⟨f0, f1, f2⟩ := keepT (v := vx) hb7.out (by assumption) (by assumption) (by assumption) (by assumption) y6))
      | ((go_at_call 14; refine (eqSheet_is x y _ _ _ _ zs _ _ (Nat.le_refl _) (hX6.out.carry ((‹Hid (Below w6.heap.size w6 _)›).out)) (‹Hid (RowF _ _ _ zs)›).out hn).mono ?_; rintro e w8 ⟨rfl, hb8⟩; have K8 := Lib.hid ((‹Hid (Below w6.heap.size w6 _)›).out.trans (hb8.out.mono (‹Hid (Below w6.heap.size w6 _)›).out.size)); obtain ⟨e0, e1, e2⟩ := keepT (v := X) hb8.out (by assumption) (by assumption) (by assumption) (by assumption) x6; obtain ⟨f0, f1, f2⟩ := keepT (v := vx) hb8.out (by assumption) (by assumption) (by assumption) (by assumption) y6)))
  have hb9 := Lib.hid ((‹Hid (Below w6.heap.size w6 w8)›).out)
  clear Vxc0 Vxc1 Vxc2 Vac0 Vac1 Vac2 hR6 hX6 x6 y6 K0
  have C7 := Lib.hid (C6.out.trans (hb9.out.mono (lex HXX.out C6.out)))
  have Va7 := Lib.hid (Va6.out.below hb9.out)
  have R7 := Lib.hid (R6.out.butIn (ButIn.of hb9.out) (lex HXX.out C6.out) (.inr rfl))
  have RW7 := Lib.hid (RW6.out.but (ButIn.of hb9.out) (.inr (Nat.zero_le _)))
  have RX7 := Lib.hid (RX6.out.but (ButIn.of hb9.out) (.inr (Nat.zero_le _)))
  have Vx7 := Lib.hid (Vx6.out.below hb9.out)
  have RG7 := Lib.hid (RG6.out.but (ButIn.of hb9.out) (.inr (Nat.zero_le _)))
  clear hb9 C6 Va6 R6 RW6 RX6 Vx6 RG6
  have Vxc0 := Vx7.out.c0
  have Vxc1 := Vx7.out.c1
  have Vxc2 := Vx7.out.c2
  go_wp2_with fail
  refine (markT x y Ax cx v0 vx zs w8 RX7.out hn).mono ?_
  rintro e w9 ⟨rfl, _, hbm⟩
  clear Vxc0 Vxc1 Vxc2
  clear RX7
  have C8 := Lib.hid (C7.out.trans (hbm.out.toBelow (by omega) (lex HXX.out C7.out)))
  have Va8 := Lib.hid (Va7.out.but hbm.out (by omega))
  have R8 := Lib.hid (R7.out.butIn hbm.out (lex HXX.out C7.out) (.inl (by omega)))
  have RW8 := Lib.hid (RW7.out.but hbm.out (by omega))
  have Vx8 := Lib.hid (Vx7.out.but hbm.out (by omega))
  have RG8 := Lib.hid (RG7.out.but hbm.out (by omega))
  clear hbm C7 Va7 R7 RW7 Vx7 RG7
  go_wp2_with fail
  refine (eqD _ _ _ _ _ _ _ _ ys w9 RG8.out RW8.out hys).mono ?_
  rintro e w10 ⟨rfl, hbe⟩
  have C9 := Lib.hid (C8.out.trans (hbe.out.mono (lex HXX.out C8.out)))
  have Va9 := Lib.hid (Va8.out.below hbe.out)
  have R9 := Lib.hid (R8.out.butIn (ButIn.of hbe.out) (lex HXX.out C8.out) (.inr rfl))
  have RW9 := Lib.hid (RW8.out.but (ButIn.of hbe.out) (.inr (Nat.zero_le _)))
  have Vx9 := Lib.hid (Vx8.out.below hbe.out)
  have RG9 := Lib.hid (RG8.out.but (ButIn.of hbe.out) (.inr (Nat.zero_le _)))
  clear hbe C8 Va8 R8 RW8 Vx8 RG8
  go_wp2_with fail
  refine (markD Ag cg (vx + 1) vg ys w10 RG9.out hys).mono ?_
  rintro e w11 ⟨rfl, RGm, hbm⟩
  clear RG9
  have C10 := Lib.hid (C9.out.trans (hbm.out.toBelow (by omega) (lex HXX.out C9.out)))
  have Va10 := Lib.hid (Va9.out.but hbm.out (by omega))
  have R10 := Lib.hid (R9.out.butIn hbm.out (lex HXX.out C9.out) (.inl (by omega)))
  have RW10 := Lib.hid (RW9.out.but hbm.out (by omega))
  have Vx10 := Lib.hid (Vx9.out.but hbm.out (by omega))
  clear hbm C9 Va9 R9 RW9 Vx9
  have RM10 := RGm
  clear RGm
  go_wp2_with fail
  refine (heldD Ag cg (vx + 1) vg ys.length w11 RM10.out hys).mono ?_
  rintro e w12 ⟨rfl, hb12⟩
  have C11 := Lib.hid (C10.out.trans (hb12.out.mono (lex HXX.out C10.out)))
  have Va11 := Lib.hid (Va10.out.below hb12.out)
  have R11 := Lib.hid (R10.out.butIn (ButIn.of hb12.out) (lex HXX.out C10.out) (.inr rfl))
  have RW11 := Lib.hid (RW10.out.but (ButIn.of hb12.out) (.inr (Nat.zero_le _)))
  have Vx11 := Lib.hid (Vx10.out.below hb12.out)
  have RM11 := Lib.hid (RM10.out.but (ButIn.of hb12.out) (.inr (Nat.zero_le _)))
  clear hb12 C10 Va10 R10 RW10 Vx10 RM10
  have Vac0 := Va11.out.c0
  have Vac1 := Va11.out.c1
  have Vac2 := Va11.out.c2
  have T := Lib.hid (toSheet_is x y A c zs w12 (R11.out.mono (lex HXX.out C11.out)) hn)
  go_wp2_with fail
  refine T.out.mono ?_
  rintro e w13 ⟨g13, rfl, _, O13, hb13⟩
  clear T Vac0 Vac1 Vac2
  have C12 := Lib.hid (C11.out.trans (hb13.out.mono (lex HXX.out C11.out)))
  have Va12 := Lib.hid (Va11.out.below hb13.out)
  have R12 := Lib.hid (R11.out.butIn (ButIn.of hb13.out) (lex HXX.out C11.out) (.inr rfl))
  have RW12 := Lib.hid (RW11.out.but (ButIn.of hb13.out) (.inr (Nat.zero_le _)))
  have Vx12 := Lib.hid (Vx11.out.below hb13.out)
  have RM12 := Lib.hid (RM11.out.but (ButIn.of hb13.out) (.inr (Nat.zero_le _)))
  clear hb13 C11 Va11 R11 RW11 Vx11 RM11
  go_wp2_with fail
  refine (HIM.out w13 _ _ O13.out).mono ?_
  rintro e w14 ⟨Ah, ch, rfl, RHx, hb14⟩
  have C13 := Lib.hid (C12.out.trans (hb14.out.mono (lex HXX.out C12.out)))
  have Va13 := Lib.hid (Va12.out.below hb14.out)
  have R13 := Lib.hid (R12.out.butIn (ButIn.of hb14.out) (lex HXX.out C12.out) (.inr rfl))
  have RW13 := Lib.hid (RW12.out.but (ButIn.of hb14.out) (.inr (Nat.zero_le _)))
  have Vx13 := Lib.hid (Vx12.out.below hb14.out)
  have RM13 := Lib.hid (RM12.out.but (ButIn.of hb14.out) (.inr (Nat.zero_le _)))
  have RH13 := RHx
  clear hb14 RHx C12 Va12 R12 RW12 Vx12 RM12
  go_wp2_with fail
  refine (eqD _ _ _ _ _ _ _ _ ys w14 RH13.out RW13.out hys).mono ?_
  rintro e w15 ⟨rfl, hbe⟩
  have C14 := Lib.hid (C13.out.trans (hbe.out.mono (lex HXX.out C13.out)))
  have Va14 := Lib.hid (Va13.out.below hbe.out)
  have R14 := Lib.hid (R13.out.butIn (ButIn.of hbe.out) (lex HXX.out C13.out) (.inr rfl))
  have RW14 := Lib.hid (RW13.out.but (ButIn.of hbe.out) (.inr (Nat.zero_le _)))
  have Vx14 := Lib.hid (Vx13.out.below hbe.out)
  have RM14 := Lib.hid (RM13.out.but (ButIn.of hbe.out) (.inr (Nat.zero_le _)))
  have RH14 := Lib.hid (RH13.out.but (ButIn.of hbe.out) (.inr (Nat.zero_le _)))
  clear hbe C13 Va13 R13 RW13 Vx13 RM13 RH13
  go_wp2_with fail
  refine (heldD Ag cg (vx + 1) vg ys.length w15 RM14.out hys).mono ?_
  rintro e w16 ⟨rfl, hb16⟩
  have CE := Lib.hid (C14.out.trans (hb16.out.mono (lex HXX.out C14.out)))
  clear hb16
  go_wp2_with fail
  go_ret
  exact ⟨rfl, by rw [HXX.out]; exact CE.out⟩

end Go.Proofs.Ytfjahgojmiednaa
