/-
  What is proved here: the law FnExactWeighSheets, as a walk. Conditions: the fields and lists are ones that a machine can hold.
-/
import Derived.Test.YtckhdbnoihieeaaWgb
import Derived.Test.YtckhdbnoihieeaaLySam
import Derived.Test.YtckhdbnoihieeaaMk2
import Derived.Deep.RegionHeld3
namespace Go.Proofs.Ytckhdbnoihieeaa
open Flt Go.RowKit
set_option linter.unusedVariables false

/-- a fresh variable that holds nothing yet -/
structure Zn (X : Nat) (w : World) (v : Nat) : Prop where
  ge : X ≤ v
  lt : v < w.heap.size
  c0 : w.cell? ⟨v, 0, none⟩ = some (.int .i64 0)
  c1 : w.cell? ⟨v, 1, none⟩ = some (.int .i64 0)
  c2 : w.cell? ⟨v, 2, none⟩ = some (.slice none 0 0)
  f0 : w.frozen? ⟨v, 0, none⟩ = false
  f1 : w.frozen? ⟨v, 1, none⟩ = false
  f2 : w.frozen? ⟨v, 2, none⟩ = false
theorem Zn.keep {X : Nat} {w w' : World} {v : Nat} (hb : Below w.heap.size w w') (h : Zn X w v) : Zn X w' v :=
  ⟨h.ge, Nat.lt_of_lt_of_le h.lt hb.size, by rw [hb.cell (p := ⟨v, 0, none⟩) h.lt]; exact h.c0, by rw [hb.cell (p := ⟨v, 1, none⟩) h.lt]; exact h.c1, by rw [hb.cell (p := ⟨v, 2, none⟩) h.lt]; exact h.c2, by rw [hb.frozen (p := ⟨v, 0, none⟩) h.lt]; exact h.f0, by rw [hb.frozen (p := ⟨v, 1, none⟩) h.lt]; exact h.f1, by rw [hb.frozen (p := ⟨v, 2, none⟩) h.lt]; exact h.f2⟩
theorem Zn.new {X : Nat} {w w' : World} {t : TypeId} (hX : X ≤ w.heap.size) (hb : Below (w.alloc (.cells #[.int .i64 0, .int .i64 0, .slice none 0 0] t)).heap.size (w.alloc (.cells #[.int .i64 0, .int .i64 0, .slice none 0 0] t)) w') : Zn X w' w.heap.size := by
  obtain ⟨d0, d1, d2, f0, f1, f2⟩ := fresh3 w (.int .i64 0) (.int .i64 0) (.slice none 0 0) t
  exact Zn.keep hb ⟨hX, by simp, d0, d1, d2, f0, f1, f2⟩
theorem cell_al {W : World} {a : Addr} {u : Value} (o : Obj) (h : W.cell? a = some u) : (W.alloc o).cell? a = some u := by rw [World.cell?_alloc_some _ _ _ (by rw [h]; rfl)]; exact h
theorem cell_ald {W : World} {a : Addr} {u : Value} (o : Obj) (h : W.cell? a = some u) : (W.alloc o).drew.cell? a = some u := cell_al o h
theorem hb_ald {w W : World} (o : Obj) (h : Hid (Below w.heap.size w W)) : Hid (Below w.heap.size w (W.alloc o).drew) := (h.out.alloc h.out.size _).drew
theorem Zn.newd {X : Nat} {w w' : World} {t : TypeId} (hX : X ≤ w.heap.size) (hb : Below (w.alloc (.cells #[.int .i64 0, .int .i64 0, .slice none 0 0] t)).drew.heap.size (w.alloc (.cells #[.int .i64 0, .int .i64 0, .slice none 0 0] t)).drew w') : Zn X w' w.heap.size :=
  Zn.new hX (((Below.refl _ _).drew).trans hb)
theorem Zn.var {X : Nat} {w : World} {v : Nat} (Z : Zn X w v) (x y : Int) (A : Option Addr) (n c : Nat) : VarT (((w.setCell ⟨v, 0, none⟩ (.int .i64 x)).setCell ⟨v, 1, none⟩ (.int .i64 y)).setCell ⟨v, 2, none⟩ (.slice A n c)) v x y A n c := by
  have n01 : (⟨v, 0, none⟩ : Addr) ≠ ⟨v, 1, none⟩ := by intro h; injection h with _ h2 _; omega
  have n02 : (⟨v, 0, none⟩ : Addr) ≠ ⟨v, 2, none⟩ := by intro h; injection h with _ h2 _; omega
  have n12 : (⟨v, 1, none⟩ : Addr) ≠ ⟨v, 2, none⟩ := by intro h; injection h with _ h2 _; omega
  have e1 : (w.setCell ⟨v, 0, none⟩ (.int .i64 x)).cell? ⟨v, 1, none⟩ = some (.int .i64 0) := by rw [World.cell?_setCell_other _ _ _ _ n01]; exact Z.c1
  have e2 : ((w.setCell ⟨v, 0, none⟩ (.int .i64 x)).setCell ⟨v, 1, none⟩ (.int .i64 y)).cell? ⟨v, 2, none⟩ = some (.slice none 0 0) := by rw [World.cell?_setCell_other _ _ _ _ n12, World.cell?_setCell_other _ _ _ _ n02]; exact Z.c2
  refine ⟨by have := Z.lt; simpa [World.setCell] using this, ?_, ?_, ?_⟩
  · rw [World.cell?_setCell_other _ _ _ _ n02.symm, World.cell?_setCell_other _ _ _ _ n01.symm, World.cell?_setCell_same w _ _ Z.c0]
  · rw [World.cell?_setCell_other _ _ _ _ n12.symm, World.cell?_setCell_same _ _ _ e1]
  · rw [World.cell?_setCell_same _ _ _ e2]
theorem Zn.row {X : Nat} {w : World} {v lo : Nat} {A : Option Addr} {zs : List Nat} (Z : Zn X w v) (r : RowIn w lo w.heap.size A zs) (hv : v < lo) (hX : X ≤ lo) (u0 u1 u2 : Value) :
    RowIn (((w.setCell ⟨v, 0, none⟩ u0).setCell ⟨v, 1, none⟩ u1).setCell ⟨v, 2, none⟩ u2) X (((w.setCell ⟨v, 0, none⟩ u0).setCell ⟨v, 1, none⟩ u1).setCell ⟨v, 2, none⟩ u2).heap.size A zs := (r.store3 hv u0 u1 u2).lower hX
theorem cell_s3 {W : World} {b o v : Nat} {u a0 a1 a2 : Value} (h : W.cell? ⟨b, o, none⟩ = some u) (hne : b ≠ v) : (((W.setCell ⟨v, 0, none⟩ a0).setCell ⟨v, 1, none⟩ a1).setCell ⟨v, 2, none⟩ a2).cell? ⟨b, o, none⟩ = some u := by
  rw [World.cell?_setCell_other _ _ _ _ (by intro h; injection h with h1 _ _; exact hne h1.symm), World.cell?_setCell_other _ _ _ _ (by intro h; injection h with h1 _ _; exact hne h1.symm), World.cell?_setCell_other _ _ _ _ (by intro h; injection h with h1 _ _; exact hne h1.symm)]
  exact h
theorem hb_al {w W : World} (o : Obj) (h : Hid (Below w.heap.size w W)) : Hid (Below w.heap.size w (W.alloc o)) := h.out.alloc h.out.size _
theorem hb_s3 {w W : World} {v : Nat} {a0 a1 a2 : Value} (h : Hid (Below w.heap.size w W)) (hv : w.heap.size ≤ v) : Hid (Below w.heap.size w (((W.setCell ⟨v, 0, none⟩ a0).setCell ⟨v, 1, none⟩ a1).setCell ⟨v, 2, none⟩ a2)) := ((h.out.setCell hv _).setCell hv _).setCell hv _
theorem RowIn.below_alloc {w : World} {lo hi : Nat} {A : Option Addr} {zs : List Nat} (r : RowIn w lo hi A zs) (o : Obj) : RowIn (w.alloc o) lo hi A zs := r.below ((Below.refl _ _).alloc (Nat.le_refl _) _)

set_option maxHeartbeats 16000000 in
set_option maxRecDepth 1000000 in
theorem lawWgh (x0 y0 : Int) (A0 : Option Addr) (n0 c0 : Nat) (zs0 : List Nat) (x1 y1 : Int) (A1 : Option Addr) (n1 c1 : Nat) (zs1 : List Nat) (u : Nat) (v : Nat) {w : World} (hl0 : SheetIn w x0 y0 A0 n0 zs0) (hl1 : SheetIn w x1 y1 A1 n1 zs1)  :
    Calls Try.prog 3 #[.agg #[.int .i64 x0, .int .i64 y0, .slice A0 n0 c0], .agg #[.int .i64 x1, .int .i64 y1, .slice A1 n1 c1], .float .f32 u, .float .f32 v] w fun e w' => e = .returned (.bool true) ∧ Below w.heap.size w w' := by
  obtain ⟨hrow0, hsz0, hN0, hwx0, hwy0⟩ := hl0
  subst hsz0
  obtain ⟨hrow1, hsz1, hN1, hwx1, hwy1⟩ := hl1
  subst hsz1
  by_cases hq0 : zs0.length ≤ 1048576
  rotate_left
  · have HB0 := Lib.hid ((((Below.refl w.heap.size w).alloc (Nat.le_refl _) _).alloc (by simp) _ : Below w.heap.size w ((w.alloc (.cells #[.int .i64 x0, .int .i64 y0, .slice A0 zs0.length c0] 24)).alloc (.cells #[.int .i64 x1, .int .i64 y1, .slice A1 zs1.length c1] 24))))
    have b1 : szN zs0.length 1048576 < 0 := by unfold szN; rw [if_neg hq0]; omega
    have HZ := Lib.hid (szSheet_is x0 y0 A0 zs0.length c0 1048576 (Nat.le_refl _) hN0 ((w.alloc (.cells #[.int .i64 x0, .int .i64 y0, .slice A0 zs0.length c0] 24)).alloc (.cells #[.int .i64 x1, .int .i64 y1, .slice A1 zs1.length c1] 24)))
    clear hrow0 hrow1
    generalize szN zs0.length 1048576 = r at *
    go_enter Try.func3, Try.ntmps3
    go_wp2_with fail
    refine HZ.out.mono ?_
    rintro e w' ⟨rfl, hb⟩
    have HB1 := Lib.hid (HB0.out.trans (hb.mono HB0.out.size))
    clear hb HZ HB0
    go_wp2_with fail
    go_ret
    exact ⟨rfl, HB1.out⟩
  by_cases hq1 : zs1.length ≤ (1048576 - zs0.length)
  rotate_left
  · have HB0 := Lib.hid ((((Below.refl w.heap.size w).alloc (Nat.le_refl _) _).alloc (by simp) _ : Below w.heap.size w ((w.alloc (.cells #[.int .i64 x0, .int .i64 y0, .slice A0 zs0.length c0] 24)).alloc (.cells #[.int .i64 x1, .int .i64 y1, .slice A1 zs1.length c1] 24))))
    have E0 : Hid (szN zs0.length 1048576 = ((1048576 - zs0.length : Nat) : Int)) := szN_eq hq0
    obtain ⟨l1, hl1⟩ : ∃ l, l = 1048576 - zs0.length := ⟨_, rfl⟩
    have b1 : ¬ (l1 : Int) < 0 := by omega
    rw [← hl1] at E0 hq1
    have b2 : szN zs1.length l1 < 0 := by unfold szN; rw [if_neg hq1]; omega
    have HZ := Lib.hid (szSheet_is x0 y0 A0 zs0.length c0 1048576 (Nat.le_refl _) hN0 ((w.alloc (.cells #[.int .i64 x0, .int .i64 y0, .slice A0 zs0.length c0] 24)).alloc (.cells #[.int .i64 x1, .int .i64 y1, .slice A1 zs1.length c1] 24)))
    have HY := Lib.hid (fun W => szSheet_is x1 y1 A1 zs1.length c1 l1 (by omega) hN1 W)
    have hV0 := (varT_new w x0 y0 A0 zs0.length c0 24)
    have hV1 := (by have h := ((varT_new (w.alloc (.cells #[.int .i64 x0, .int .i64 y0, .slice A0 zs0.length c0] 24)) x1 y1 A1 zs1.length c1 24) : VarT ((w.alloc (.cells #[.int .i64 x0, .int .i64 y0, .slice A0 zs0.length c0] 24)).alloc (.cells #[.int .i64 x1, .int .i64 y1, .slice A1 zs1.length c1] 24)) (w.alloc (.cells #[.int .i64 x0, .int .i64 y0, .slice A0 zs0.length c0] 24)).heap.size x1 y1 A1 zs1.length c1); rwa [show (w.alloc (.cells #[.int .i64 x0, .int .i64 y0, .slice A0 zs0.length c0] 24)).heap.size = w.heap.size + 1 by simp] at h : VarT ((w.alloc (.cells #[.int .i64 x0, .int .i64 y0, .slice A0 zs0.length c0] 24)).alloc (.cells #[.int .i64 x1, .int .i64 y1, .slice A1 zs1.length c1] 24)) (w.heap.size + 1) x1 y1 A1 zs1.length c1)
    clear hrow0 hrow1 hl1
    rw [E0.out] at HZ
    generalize szN zs1.length l1 = r at *
    go_enter Try.func3, Try.ntmps3
    go_wp2_with fail
    generalize ((w.alloc (.cells #[.int .i64 x0, .int .i64 y0, .slice A0 zs0.length c0] 24)).alloc (.cells #[.int .i64 x1, .int .i64 y1, .slice A1 zs1.length c1] 24)) = a0 at *
    refine HZ.out.mono ?_
    rintro e w' ⟨rfl, hb⟩
    have HB1 := Lib.hid (HB0.out.trans (hb.mono HB0.out.size))
    have hV2 := hV1.below hb
    have c0 := hV2.c0
    have c1 := hV2.c1
    have c2 := hV2.c2
    clear hb HZ HB0 hV0 hV1 hV2
    go_wp2_with fail
    refine (HY.out _).mono ?_
    rintro e w2 ⟨rfl, hb⟩
    have HB2 := Lib.hid (HB1.out.trans (hb.mono HB1.out.size))
    clear hb HY HB1 c0 c1 c2
    go_wp2_with fail
    go_ret
    exact ⟨rfl, HB2.out⟩
  have hn0 : zs0.length ≤ 1048576 := by omega
  have hn1 : zs1.length ≤ 1048576 := by omega
  obtain ⟨b, fx, fy, ys, hys, hS, hI⟩ := wghBoth x0 y0 zs0 x1 y1 zs1 u v hn0 hn1
  have HSP := Lib.hid hS
  have HIM := Lib.hid hI
  have R0_0 : Hid (RowF w w.heap.size A0 zs0) := hrow0
  have R1_0 : Hid (RowF w w.heap.size A1 zs1) := hrow1
  have C_0 : Hid (Below w.heap.size w w) := Below.refl _ _
  have E0 : Hid (szN zs0.length 1048576 = ((1048576 - zs0.length : Nat) : Int)) := szN_eq hq0
  obtain ⟨l1, hl1⟩ : ∃ l, l = 1048576 - zs0.length := ⟨_, rfl⟩
  have b1 : ¬ (l1 : Int) < 0 := by omega
  rw [← hl1] at E0 hq1
  have b2 : ¬ szN zs1.length l1 < 0 := by rw [szN_eq hq1]; omega
  have HZ := Lib.hid (szSheet_is x0 y0 A0 zs0.length c0 1048576 (Nat.le_refl _) hN0 ((w.alloc (.cells #[.int .i64 x0, .int .i64 y0, .slice A0 zs0.length c0] 24)).alloc (.cells #[.int .i64 x1, .int .i64 y1, .slice A1 zs1.length c1] 24)))
  have HY := Lib.hid (fun W => szSheet_is x1 y1 A1 zs1.length c1 l1 (by omega) hN1 W)
  rw [E0.out] at HZ
  have hb0 := (((Below.refl w.heap.size w).alloc (Nat.le_refl _) _).alloc (by simp) _ : Below w.heap.size w ((w.alloc (.cells #[.int .i64 x0, .int .i64 y0, .slice A0 zs0.length c0] 24)).alloc (.cells #[.int .i64 x1, .int .i64 y1, .slice A1 zs1.length c1] 24)))
  have R0_1 := Lib.hid (R0_0.out.below (hb0.mono C_0.out.size))
  have R1_1 := Lib.hid (R1_0.out.below (hb0.mono C_0.out.size))
  have C_1 := Lib.hid (C_0.out.trans (hb0.mono C_0.out.size))
  have Va0_1 := Lib.hid ((varT_new w x0 y0 A0 zs0.length c0 24).below (below_var _ x1 y1 A1 zs1.length c1 24))
  have Va1_1 := Lib.hid (by have h := ((varT_new (w.alloc (.cells #[.int .i64 x0, .int .i64 y0, .slice A0 zs0.length c0] 24)) x1 y1 A1 zs1.length c1 24) : VarT ((w.alloc (.cells #[.int .i64 x0, .int .i64 y0, .slice A0 zs0.length c0] 24)).alloc (.cells #[.int .i64 x1, .int .i64 y1, .slice A1 zs1.length c1] 24)) (w.alloc (.cells #[.int .i64 x0, .int .i64 y0, .slice A0 zs0.length c0] 24)).heap.size x1 y1 A1 zs1.length c1); rwa [show (w.alloc (.cells #[.int .i64 x0, .int .i64 y0, .slice A0 zs0.length c0] 24)).heap.size = w.heap.size + 1 by simp] at h : VarT ((w.alloc (.cells #[.int .i64 x0, .int .i64 y0, .slice A0 zs0.length c0] 24)).alloc (.cells #[.int .i64 x1, .int .i64 y1, .slice A1 zs1.length c1] 24)) (w.heap.size + 1) x1 y1 A1 zs1.length c1)
  have oa0 : w.heap.size + 1 < ((w.alloc (.cells #[.int .i64 x0, .int .i64 y0, .slice A0 zs0.length c0] 24)).alloc (.cells #[.int .i64 x1, .int .i64 y1, .slice A1 zs1.length c1] 24)).heap.size := Va1_1.out.lt
  clear hb0 R0_0 R1_0 C_0
  clear hS hI hl1 hrow0 hrow1
  generalize szN zs1.length l1 = r at *
  go_enter Try.func3, Try.ntmps3
  go_wp2_with fail
  generalize ((w.alloc (.cells #[.int .i64 x0, .int .i64 y0, .slice A0 zs0.length c0] 24)).alloc (.cells #[.int .i64 x1, .int .i64 y1, .slice A1 zs1.length c1] 24)) = a0 at *
  refine HZ.out.mono ?_
  rintro e wy ⟨rfl, hbz⟩
  clear HZ
  have R0_2 := Lib.hid (R0_1.out.below (hbz.mono C_1.out.size))
  have R1_2 := Lib.hid (R1_1.out.below (hbz.mono C_1.out.size))
  have C_2 := Lib.hid (C_1.out.trans (hbz.mono C_1.out.size))
  have Va0_2 := Lib.hid (Va0_1.out.below hbz)
  have Va1_2 := Lib.hid (Va1_1.out.below hbz)
  have oy := hbz.size
  clear hbz R0_1 R1_1 C_1 Va0_1 Va1_1
  have Va1c0 := Va1_2.out.c0
  have Va1c1 := Va1_2.out.c1
  have Va1c2 := Va1_2.out.c2
  have Va1lt := Va1_2.out.lt
  go_wp2_with fail
  clear Va1c0 Va1c1 Va1c2 Va1lt
  refine (HY.out wy).mono ?_
  rintro e wz ⟨rfl, hbz⟩
  clear HY
  have R0_3 := Lib.hid (R0_2.out.below (hbz.mono C_2.out.size))
  have R1_3 := Lib.hid (R1_2.out.below (hbz.mono C_2.out.size))
  have C_3 := Lib.hid (C_2.out.trans (hbz.mono C_2.out.size))
  have Va0_3 := Lib.hid (Va0_2.out.below hbz)
  have Va1_3 := Lib.hid (Va1_2.out.below hbz)
  have oz := hbz.size
  clear hbz R0_2 R1_2 C_2 Va0_2 Va1_2
  have Va0c0 := Va0_3.out.c0
  have Va0c1 := Va0_3.out.c1
  have Va0c2 := Va0_3.out.c2
  have Va0lt := Va0_3.out.lt
  have Va1c0 := Va1_3.out.c0
  have Va1c1 := Va1_3.out.c1
  have Va1c2 := Va1_3.out.c2
  have Va1lt := Va1_3.out.lt
  go_wp2_with fail
  have hR6_0 : Hid (RowF wz wz.heap.size A0 zs0) := R0_3.out.mono C_3.out.size
  have x6_0 : w.heap.size < wz.heap.size := Va0_3.out.lt
  have hR6_1 : Hid (RowF wz wz.heap.size A1 zs1) := R1_3.out.mono C_3.out.size
  have x6_1 : (w.heap.size + 1) < wz.heap.size := Va1_3.out.lt
  have K0 : Hid (Below wz.heap.size wz wz.drew) := (Below.refl _ _).drew
  have K00 : Hid (Below wz.heap.size wz wz) := Below.refl _ _
  have dd00 : wz.drew.cell? ⟨w.heap.size, 0, none⟩ = some (.int .i64 x0) := Va0c0
  have de00 : (wz.alloc (.cells #[.int .i64 0, .int .i64 0, .slice none 0 0] 27)).drew.cell? ⟨w.heap.size, 0, none⟩ = some (.int .i64 x0) := cell_ald _ Va0c0
  have dd01 : wz.drew.cell? ⟨w.heap.size, 1, none⟩ = some (.int .i64 y0) := Va0c1
  have de01 : (wz.alloc (.cells #[.int .i64 0, .int .i64 0, .slice none 0 0] 27)).drew.cell? ⟨w.heap.size, 1, none⟩ = some (.int .i64 y0) := cell_ald _ Va0c1
  have dd02 : wz.drew.cell? ⟨w.heap.size, 2, none⟩ = some (.slice A0 zs0.length c0) := Va0c2
  have de02 : (wz.alloc (.cells #[.int .i64 0, .int .i64 0, .slice none 0 0] 27)).drew.cell? ⟨w.heap.size, 2, none⟩ = some (.slice A0 zs0.length c0) := cell_ald _ Va0c2
  have dd10 : wz.drew.cell? ⟨(w.heap.size + 1), 0, none⟩ = some (.int .i64 x1) := Va1c0
  have de10 : (wz.alloc (.cells #[.int .i64 0, .int .i64 0, .slice none 0 0] 27)).drew.cell? ⟨(w.heap.size + 1), 0, none⟩ = some (.int .i64 x1) := cell_ald _ Va1c0
  have dd11 : wz.drew.cell? ⟨(w.heap.size + 1), 1, none⟩ = some (.int .i64 y1) := Va1c1
  have de11 : (wz.alloc (.cells #[.int .i64 0, .int .i64 0, .slice none 0 0] 27)).drew.cell? ⟨(w.heap.size + 1), 1, none⟩ = some (.int .i64 y1) := cell_ald _ Va1c1
  have dd12 : wz.drew.cell? ⟨(w.heap.size + 1), 2, none⟩ = some (.slice A1 zs1.length c1) := Va1c2
  have de12 : (wz.alloc (.cells #[.int .i64 0, .int .i64 0, .slice none 0 0] 27)).drew.cell? ⟨(w.heap.size + 1), 2, none⟩ = some (.slice A1 zs1.length c1) := cell_ald _ Va1c2
  go_region_held3 (fun w' => w'.cell? ⟨w.heap.size, 0, none⟩ = some (.int .i64 x0) ∧ w'.cell? ⟨w.heap.size, 1, none⟩ = some (.int .i64 y0) ∧ w'.cell? ⟨w.heap.size, 2, none⟩ = some (.slice A0 zs0.length c0) ∧ w'.cell? ⟨(w.heap.size + 1), 0, none⟩ = some (.int .i64 x1) ∧ w'.cell? ⟨(w.heap.size + 1), 1, none⟩ = some (.int .i64 y1) ∧ w'.cell? ⟨(w.heap.size + 1), 2, none⟩ = some (.slice A1 zs1.length c1) ∧ Hid (Below wz.heap.size wz w')) (first | (with_reducible exact ⟨by assumption, by assumption, by assumption, by assumption, by assumption, by assumption, by assumption⟩) | (with_reducible exact ⟨cell_al _ (by assumption), cell_al _ (by assumption), cell_al _ (by assumption), cell_al _ (by assumption), cell_al _ (by assumption), cell_al _ (by assumption), hb_al _ (by assumption)⟩) | (with_reducible exact ⟨cell_s3 (by assumption) (by omega), cell_s3 (by assumption) (by omega), cell_s3 (by assumption) (by omega), cell_s3 (by assumption) (by omega), cell_s3 (by assumption) (by omega), cell_s3 (by assumption) (by omega), hb_s3 (by assumption) (by omega)⟩) | (refine ⟨?_, ?_, ?_, ?_, ?_, ?_, ?_⟩ <;> (first | (with_reducible assumption) | (with_reducible exact cell_al _ (by assumption)) | (with_reducible exact hb_al _ (by assumption)) | (with_reducible exact cell_ald _ (by assumption)) | (with_reducible exact hb_ald _ (by assumption)))) | go_keep)
    (first
      | ((go_at_call 13; (with_reducible refine (toSheetO x0 y0 A0 c0 zs0 _ (hR6_0.out.carry ((show Hid (Below wz.heap.size wz _) by first | (with_reducible assumption) | (with_reducible exact hb_al _ (by assumption)) | (with_reducible exact hb_ald _ (by assumption)) | assumption).out)) hn0).mono ?_); rintro e wt0 ⟨At0, ct0, rfl, Ot0, hbt0⟩; have Kt0 := Lib.hid ((show Hid (Below wz.heap.size wz _) by first | (with_reducible assumption) | (with_reducible exact hb_al _ (by assumption)) | (with_reducible exact hb_ald _ (by assumption)) | assumption).out.trans (hbt0.out.mono (show Hid (Below wz.heap.size wz _) by first | (with_reducible assumption) | (with_reducible exact hb_al _ (by assumption)) | (with_reducible exact hb_ald _ (by assumption)) | assumption).out.size)); obtain ⟨e00, e01, e02⟩ := keepT (v := w.heap.size) hbt0.out (by first | (with_reducible assumption) | (with_reducible exact cell_al _ (by assumption)) | (with_reducible exact hb_al _ (by assumption)) | (with_reducible exact hb_ald _ (by assumption)) | assumption) (by first | (with_reducible assumption) | (with_reducible exact cell_al _ (by assumption)) | (with_reducible exact hb_al _ (by assumption)) | (with_reducible exact hb_ald _ (by assumption)) | assumption) (by first | (with_reducible assumption) | (with_reducible exact cell_al _ (by assumption)) | (with_reducible exact hb_al _ (by assumption)) | (with_reducible exact hb_ald _ (by assumption)) | assumption) (by first | (with_reducible assumption) | (with_reducible exact cell_al _ (by assumption)) | (with_reducible exact hb_al _ (by assumption)) | (with_reducible exact hb_ald _ (by assumption)) | assumption) x6_0; obtain ⟨e10, e11, e12⟩ := keepT (v := (w.heap.size + 1)) hbt0.out (by first | (with_reducible assumption) | (with_reducible exact cell_al _ (by assumption)) | (with_reducible exact hb_al _ (by assumption)) | (with_reducible exact hb_ald _ (by assumption)) | assumption) (by first | (with_reducible assumption) | (with_reducible exact cell_al _ (by assumption)) | (with_reducible exact hb_al _ (by assumption)) | (with_reducible exact hb_ald _ (by assumption)) | assumption) (by first | (with_reducible assumption) | (with_reducible exact cell_al _ (by assumption)) | (with_reducible exact hb_al _ (by assumption)) | (with_reducible exact hb_ald _ (by assumption)) | assumption) (by first | (with_reducible assumption) | (with_reducible exact cell_al _ (by assumption)) | (with_reducible exact hb_al _ (by assumption)) | (with_reducible exact hb_ald _ (by assumption)) | assumption) x6_1; (try have Oc1 := Lib.hid ((‹Hid (RowIn _ _ _ At1 _)›).out.below hbt0.out)); (try have Oc1 := Lib.hid (((‹Hid (RowIn _ _ _ At1 _)›).out.below_alloc _).below hbt0.out)); (try have Z := Lib.hid (Zn.keep hbt0.out (by with_reducible assumption : Hid (Zn _ _ _)).out)); (try have Z := Lib.hid (Zn.new (by with_reducible assumption : Hid (Below wz.heap.size wz _)).out.size hbt0.out)); (try have Z := Lib.hid (Zn.newd (Nat.le_refl wz.heap.size) hbt0.out)); (try have z0 := Z.out.c0); (try have z1 := Z.out.c1); (try have z2 := Z.out.c2); (try have zf0 := Z.out.f0); (try have zf1 := Z.out.f1); (try have zf2 := Z.out.f2); (try have zl := Z.out.lt); (try have zg := Z.out.ge)))
      | ((go_at_call 13; (with_reducible refine (toSheetO x1 y1 A1 c1 zs1 _ (hR6_1.out.carry ((show Hid (Below wz.heap.size wz _) by first | (with_reducible assumption) | (with_reducible exact hb_al _ (by assumption)) | (with_reducible exact hb_ald _ (by assumption)) | assumption).out)) hn1).mono ?_); rintro e wt1 ⟨At1, ct1, rfl, Ot1, hbt1⟩; have Kt1 := Lib.hid ((show Hid (Below wz.heap.size wz _) by first | (with_reducible assumption) | (with_reducible exact hb_al _ (by assumption)) | (with_reducible exact hb_ald _ (by assumption)) | assumption).out.trans (hbt1.out.mono (show Hid (Below wz.heap.size wz _) by first | (with_reducible assumption) | (with_reducible exact hb_al _ (by assumption)) | (with_reducible exact hb_ald _ (by assumption)) | assumption).out.size)); obtain ⟨e00, e01, e02⟩ := keepT (v := w.heap.size) hbt1.out (by first | (with_reducible assumption) | (with_reducible exact cell_al _ (by assumption)) | (with_reducible exact hb_al _ (by assumption)) | (with_reducible exact hb_ald _ (by assumption)) | assumption) (by first | (with_reducible assumption) | (with_reducible exact cell_al _ (by assumption)) | (with_reducible exact hb_al _ (by assumption)) | (with_reducible exact hb_ald _ (by assumption)) | assumption) (by first | (with_reducible assumption) | (with_reducible exact cell_al _ (by assumption)) | (with_reducible exact hb_al _ (by assumption)) | (with_reducible exact hb_ald _ (by assumption)) | assumption) (by first | (with_reducible assumption) | (with_reducible exact cell_al _ (by assumption)) | (with_reducible exact hb_al _ (by assumption)) | (with_reducible exact hb_ald _ (by assumption)) | assumption) x6_0; obtain ⟨e10, e11, e12⟩ := keepT (v := (w.heap.size + 1)) hbt1.out (by first | (with_reducible assumption) | (with_reducible exact cell_al _ (by assumption)) | (with_reducible exact hb_al _ (by assumption)) | (with_reducible exact hb_ald _ (by assumption)) | assumption) (by first | (with_reducible assumption) | (with_reducible exact cell_al _ (by assumption)) | (with_reducible exact hb_al _ (by assumption)) | (with_reducible exact hb_ald _ (by assumption)) | assumption) (by first | (with_reducible assumption) | (with_reducible exact cell_al _ (by assumption)) | (with_reducible exact hb_al _ (by assumption)) | (with_reducible exact hb_ald _ (by assumption)) | assumption) (by first | (with_reducible assumption) | (with_reducible exact cell_al _ (by assumption)) | (with_reducible exact hb_al _ (by assumption)) | (with_reducible exact hb_ald _ (by assumption)) | assumption) x6_1; (try have Oc0 := Lib.hid ((‹Hid (RowIn _ _ _ At0 _)›).out.below hbt1.out)); (try have Oc0 := Lib.hid (((‹Hid (RowIn _ _ _ At0 _)›).out.below_alloc _).below hbt1.out)); (try have Z := Lib.hid (Zn.keep hbt1.out (by with_reducible assumption : Hid (Zn _ _ _)).out)); (try have Z := Lib.hid (Zn.new (by with_reducible assumption : Hid (Below wz.heap.size wz _)).out.size hbt1.out)); (try have Z := Lib.hid (Zn.newd (Nat.le_refl wz.heap.size) hbt1.out)); (try have z0 := Z.out.c0); (try have z1 := Z.out.c1); (try have z2 := Z.out.c2); (try have zf0 := Z.out.f0); (try have zf1 := Z.out.f1); (try have zf2 := Z.out.f2); (try have zl := Z.out.lt); (try have zg := Z.out.ge)))
      | ((go_at_call 12; refine (HSP.out _ _ _ _ _ (by first | exact (‹Hid (RowIn _ _ _ At0 _)›).out.toRow | exact ((‹Hid (RowIn _ _ _ At0 _)›).out.below_alloc _).toRow) (by first | exact (‹Hid (RowIn _ _ _ At1 _)›).out.toRow | exact ((‹Hid (RowIn _ _ _ At1 _)›).out.below_alloc _).toRow)).mono ?_; rintro e w8w ⟨Aw, cw, rfl, TW, hb8⟩; have K8 := Lib.hid ((show Hid (Below wz.heap.size wz _) by first | (with_reducible assumption) | (with_reducible exact hb_al _ (by assumption)) | (with_reducible exact hb_ald _ (by assumption)) | assumption).out.trans (hb8.out.mono (show Hid (Below wz.heap.size wz _) by first | (with_reducible assumption) | (with_reducible exact hb_al _ (by assumption)) | (with_reducible exact hb_ald _ (by assumption)) | assumption).out.size)); obtain ⟨g00, g01, g02⟩ := keepT (v := w.heap.size) hb8.out (by first | (with_reducible assumption) | (with_reducible exact cell_al _ (by assumption)) | (with_reducible exact hb_al _ (by assumption)) | (with_reducible exact hb_ald _ (by assumption)) | assumption) (by first | (with_reducible assumption) | (with_reducible exact cell_al _ (by assumption)) | (with_reducible exact hb_al _ (by assumption)) | (with_reducible exact hb_ald _ (by assumption)) | assumption) (by first | (with_reducible assumption) | (with_reducible exact cell_al _ (by assumption)) | (with_reducible exact hb_al _ (by assumption)) | (with_reducible exact hb_ald _ (by assumption)) | assumption) (by first | (with_reducible assumption) | (with_reducible exact cell_al _ (by assumption)) | (with_reducible exact hb_al _ (by assumption)) | (with_reducible exact hb_ald _ (by assumption)) | assumption) x6_0; obtain ⟨g10, g11, g12⟩ := keepT (v := (w.heap.size + 1)) hb8.out (by first | (with_reducible assumption) | (with_reducible exact cell_al _ (by assumption)) | (with_reducible exact hb_al _ (by assumption)) | (with_reducible exact hb_ald _ (by assumption)) | assumption) (by first | (with_reducible assumption) | (with_reducible exact cell_al _ (by assumption)) | (with_reducible exact hb_al _ (by assumption)) | (with_reducible exact hb_ald _ (by assumption)) | assumption) (by first | (with_reducible assumption) | (with_reducible exact cell_al _ (by assumption)) | (with_reducible exact hb_al _ (by assumption)) | (with_reducible exact hb_ald _ (by assumption)) | assumption) (by first | (with_reducible assumption) | (with_reducible exact cell_al _ (by assumption)) | (with_reducible exact hb_al _ (by assumption)) | (with_reducible exact hb_ald _ (by assumption)) | assumption) x6_1; (try have Z := Lib.hid (Zn.keep hb8.out (by with_reducible assumption : Hid (Zn _ _ _)).out)); (try have Z := Lib.hid (Zn.new (by with_reducible assumption : Hid (Below wz.heap.size wz _)).out.size hb8.out)); (try have Z := Lib.hid (Zn.newd (Nat.le_refl wz.heap.size) hb8.out)); (try have z0 := Z.out.c0); (try have z1 := Z.out.c1); (try have z2 := Z.out.c2); (try have zf0 := Z.out.f0); (try have zf1 := Z.out.f1); (try have zf2 := Z.out.f2); (try have zl := Z.out.lt); (try have zg := Z.out.ge))))
  all_goals
    first
    | (have FV : Hid (VarT (((w8w.setCell ⟨wt1.heap.size, 0, none⟩ (.int .i64 fx)).setCell ⟨wt1.heap.size, 1, none⟩ (.int .i64 fy)).setCell ⟨wt1.heap.size, 2, none⟩ (.slice Aw ys.length cw)) wt1.heap.size fx fy Aw ys.length cw) := Lib.hid (Z.out.var fx fy Aw ys.length cw); have k1 := Kt1.out.size; have FR : Hid (RowIn (((w8w.setCell ⟨wt1.heap.size, 0, none⟩ (.int .i64 fx)).setCell ⟨wt1.heap.size, 1, none⟩ (.int .i64 fy)).setCell ⟨wt1.heap.size, 2, none⟩ (.slice Aw ys.length cw)) wz.heap.size (((w8w.setCell ⟨wt1.heap.size, 0, none⟩ (.int .i64 fx)).setCell ⟨wt1.heap.size, 1, none⟩ (.int .i64 fy)).setCell ⟨wt1.heap.size, 2, none⟩ (.slice Aw ys.length cw)).heap.size Aw ys) := Lib.hid (Z.out.row TW.out (by first | omega | (simp; done) | (simp; omega)) (by first | omega | (simp; omega)) _ _ _); have FB : Hid (Below wz.heap.size wz (((w8w.setCell ⟨wt1.heap.size, 0, none⟩ (.int .i64 fx)).setCell ⟨wt1.heap.size, 1, none⟩ (.int .i64 fy)).setCell ⟨wt1.heap.size, 2, none⟩ (.slice Aw ys.length cw))) := hb_s3 K8 Z.out.ge; generalize (((w8w.setCell ⟨wt1.heap.size, 0, none⟩ (.int .i64 fx)).setCell ⟨wt1.heap.size, 1, none⟩ (.int .i64 fy)).setCell ⟨wt1.heap.size, 2, none⟩ (.slice Aw ys.length cw)) = wNw at *)
    | (have FV : Hid (VarT (((w8w.setCell ⟨wt0.heap.size, 0, none⟩ (.int .i64 fx)).setCell ⟨wt0.heap.size, 1, none⟩ (.int .i64 fy)).setCell ⟨wt0.heap.size, 2, none⟩ (.slice Aw ys.length cw)) wt0.heap.size fx fy Aw ys.length cw) := Lib.hid (Z.out.var fx fy Aw ys.length cw); have k1 := Kt1.out.size; have FR : Hid (RowIn (((w8w.setCell ⟨wt0.heap.size, 0, none⟩ (.int .i64 fx)).setCell ⟨wt0.heap.size, 1, none⟩ (.int .i64 fy)).setCell ⟨wt0.heap.size, 2, none⟩ (.slice Aw ys.length cw)) wz.heap.size (((w8w.setCell ⟨wt0.heap.size, 0, none⟩ (.int .i64 fx)).setCell ⟨wt0.heap.size, 1, none⟩ (.int .i64 fy)).setCell ⟨wt0.heap.size, 2, none⟩ (.slice Aw ys.length cw)).heap.size Aw ys) := Lib.hid (Z.out.row TW.out (by first | omega | (simp; done) | (simp; omega)) (by first | omega | (simp; omega)) _ _ _); have FB : Hid (Below wz.heap.size wz (((w8w.setCell ⟨wt0.heap.size, 0, none⟩ (.int .i64 fx)).setCell ⟨wt0.heap.size, 1, none⟩ (.int .i64 fy)).setCell ⟨wt0.heap.size, 2, none⟩ (.slice Aw ys.length cw))) := hb_s3 K8 Z.out.ge; generalize (((w8w.setCell ⟨wt0.heap.size, 0, none⟩ (.int .i64 fx)).setCell ⟨wt0.heap.size, 1, none⟩ (.int .i64 fy)).setCell ⟨wt0.heap.size, 2, none⟩ (.slice Aw ys.length cw)) = wNw at *)
    | (have FV : Hid (VarT (((w8w.setCell ⟨wz.heap.size, 0, none⟩ (.int .i64 fx)).setCell ⟨wz.heap.size, 1, none⟩ (.int .i64 fy)).setCell ⟨wz.heap.size, 2, none⟩ (.slice Aw ys.length cw)) wz.heap.size fx fy Aw ys.length cw) := Lib.hid (Z.out.var fx fy Aw ys.length cw); have k1 := Kt1.out.size; have FR : Hid (RowIn (((w8w.setCell ⟨wz.heap.size, 0, none⟩ (.int .i64 fx)).setCell ⟨wz.heap.size, 1, none⟩ (.int .i64 fy)).setCell ⟨wz.heap.size, 2, none⟩ (.slice Aw ys.length cw)) wz.heap.size (((w8w.setCell ⟨wz.heap.size, 0, none⟩ (.int .i64 fx)).setCell ⟨wz.heap.size, 1, none⟩ (.int .i64 fy)).setCell ⟨wz.heap.size, 2, none⟩ (.slice Aw ys.length cw)).heap.size Aw ys) := Lib.hid (Z.out.row TW.out (by first | omega | (simp; done) | (simp; omega)) (by first | omega | (simp; omega)) _ _ _); have FB : Hid (Below wz.heap.size wz (((w8w.setCell ⟨wz.heap.size, 0, none⟩ (.int .i64 fx)).setCell ⟨wz.heap.size, 1, none⟩ (.int .i64 fy)).setCell ⟨wz.heap.size, 2, none⟩ (.slice Aw ys.length cw))) := hb_s3 K8 Z.out.ge; generalize (((w8w.setCell ⟨wz.heap.size, 0, none⟩ (.int .i64 fx)).setCell ⟨wz.heap.size, 1, none⟩ (.int .i64 fy)).setCell ⟨wz.heap.size, 2, none⟩ (.slice Aw ys.length cw)) = wNw at *)
    | (have FV : Hid (VarT (w8w.alloc (.cells #[.int .i64 fx, .int .i64 fy, .slice Aw ys.length cw] 27)) w8w.heap.size fx fy Aw ys.length cw) := Lib.hid (varT_new w8w fx fy Aw ys.length cw 27); have FR : Hid (RowIn (w8w.alloc (.cells #[.int .i64 fx, .int .i64 fy, .slice Aw ys.length cw] 27)) wz.heap.size w8w.heap.size Aw ys) := Lib.hid ((TW.out.lower Kt1.out.size).below_alloc _); have FB : Hid (Below wz.heap.size wz (w8w.alloc (.cells #[.int .i64 fx, .int .i64 fy, .slice Aw ys.length cw] 27))) := hb_al _ K8; generalize (w8w.alloc (.cells #[.int .i64 fx, .int .i64 fy, .slice Aw ys.length cw] 27)) = wNw at *)
    have hb9 := FB
    have RWx := FR
    clear K8 TW hb8 Kt0 Kt1 Ot0 Ot1 hbt0 hbt1 e00 e01 e02 e10 e11 e12 FB FR K00
    try clear Oc0
    try clear Oc1
    try clear Z
    try clear z0 z1 z2 zf0 zf1 zf2
    clear Va0c0 Va0c1 Va0c2 Va0lt Va1c0 Va1c1 Va1c2 Va1lt K0 hR6_0 x6_0 hR6_1 x6_1 dd00 de00 dd01 de01 dd02 de02 dd10 de10 dd11 de11 dd12 de12
    have R0_4 := Lib.hid (R0_3.out.below (hb9.out.mono C_3.out.size))
    have R1_4 := Lib.hid (R1_3.out.below (hb9.out.mono C_3.out.size))
    have C_4 := Lib.hid (C_3.out.trans (hb9.out.mono C_3.out.size))
    have Va0_4 := Lib.hid (Va0_3.out.below hb9.out)
    have Va1_4 := Lib.hid (Va1_3.out.below hb9.out)
    have oN := hb9.out.size
    have RW_4 := RWx
    have Vw_4 := FV
    have ovw := FV.out.lt
    have ovg : wz.heap.size ≤ wz.heap.size := Nat.le_refl _
    clear hb9 RWx FV R0_3 R1_3 C_3 Va0_3 Va1_3
    have Va0c0 := Va0_4.out.c0
    have Va0c1 := Va0_4.out.c1
    have Va0c2 := Va0_4.out.c2
    have Va0lt := Va0_4.out.lt
    go_wp2_with fail
    clear Va0c0 Va0c1 Va0c2 Va0lt
    refine (toSheetO x0 y0 A0 c0 zs0 wNw (R0_4.out.mono C_4.out.size) hn0).mono ?_
    rintro e w1 ⟨Bw1, dw1, rfl, Tw1, hbw1⟩
    have R0_5 := Lib.hid (R0_4.out.below (hbw1.out.mono C_4.out.size))
    have R1_5 := Lib.hid (R1_4.out.below (hbw1.out.mono C_4.out.size))
    have C_5 := Lib.hid (C_4.out.trans (hbw1.out.mono C_4.out.size))
    have Va0_5 := Lib.hid (Va0_4.out.below hbw1.out)
    have Va1_5 := Lib.hid (Va1_4.out.below hbw1.out)
    have RW_5 := Lib.hid (RW_4.out.below hbw1.out)
    have Vw_5 := Lib.hid (Vw_4.out.below hbw1.out)
    have X0_5 := Tw1
    have ow1 := hbw1.out.size
    clear Tw1 hbw1 R0_4 R1_4 C_4 Va0_4 Va1_4 RW_4 Vw_4
    have Va1c0 := Va1_5.out.c0
    have Va1c1 := Va1_5.out.c1
    have Va1c2 := Va1_5.out.c2
    have Va1lt := Va1_5.out.lt
    have hbA := below_var w1 x0 y0 Bw1 zs0.length dw1 27
    have R0_6 := Lib.hid (R0_5.out.below (hbA.mono C_5.out.size))
    have R1_6 := Lib.hid (R1_5.out.below (hbA.mono C_5.out.size))
    have C_6 := Lib.hid (C_5.out.trans (hbA.mono C_5.out.size))
    have Va0_6 := Lib.hid (Va0_5.out.below hbA)
    have Va1_6 := Lib.hid (Va1_5.out.below hbA)
    have RW_6 := Lib.hid (RW_5.out.below hbA)
    have Vw_6 := Lib.hid (Vw_5.out.below hbA)
    have X0_6 := Lib.hid (X0_5.out.below hbA)
    have Vx0_6 := Lib.hid (varT_new w1 x0 y0 Bw1 zs0.length dw1 27)
    have ow2 : w1.heap.size < (w1.alloc (.cells #[.int .i64 x0, .int .i64 y0, .slice Bw1 zs0.length dw1] 27)).heap.size := Vx0_6.out.lt
    clear hbA R0_5 R1_5 C_5 Va0_5 Va1_5 RW_5 Vw_5 X0_5
    go_wp2_with fail
    clear Va1c0 Va1c1 Va1c2 Va1lt
    generalize w1.alloc (.cells #[.int .i64 x0, .int .i64 y0, .slice Bw1 zs0.length dw1] 27) = w2 at *
    refine (toSheetO x1 y1 A1 c1 zs1 w2 (R1_6.out.mono C_6.out.size) hn1).mono ?_
    rintro e w3 ⟨Bw3, dw3, rfl, Tw3, hbw3⟩
    have R0_7 := Lib.hid (R0_6.out.below (hbw3.out.mono C_6.out.size))
    have R1_7 := Lib.hid (R1_6.out.below (hbw3.out.mono C_6.out.size))
    have C_7 := Lib.hid (C_6.out.trans (hbw3.out.mono C_6.out.size))
    have Va0_7 := Lib.hid (Va0_6.out.below hbw3.out)
    have Va1_7 := Lib.hid (Va1_6.out.below hbw3.out)
    have RW_7 := Lib.hid (RW_6.out.below hbw3.out)
    have Vw_7 := Lib.hid (Vw_6.out.below hbw3.out)
    have X0_7 := Lib.hid (X0_6.out.below hbw3.out)
    have Vx0_7 := Lib.hid (Vx0_6.out.below hbw3.out)
    have X1_7 := Tw3
    have ow3 := hbw3.out.size
    clear Tw3 hbw3 R0_6 R1_6 C_6 Va0_6 Va1_6 RW_6 Vw_6 X0_6 Vx0_6
    have Vx0c0 := Vx0_7.out.c0
    have Vx0c1 := Vx0_7.out.c1
    have Vx0c2 := Vx0_7.out.c2
    have Vx0lt := Vx0_7.out.lt
    have hbA := below_var w3 x1 y1 Bw3 zs1.length dw3 27
    have R0_8 := Lib.hid (R0_7.out.below (hbA.mono C_7.out.size))
    have R1_8 := Lib.hid (R1_7.out.below (hbA.mono C_7.out.size))
    have C_8 := Lib.hid (C_7.out.trans (hbA.mono C_7.out.size))
    have Va0_8 := Lib.hid (Va0_7.out.below hbA)
    have Va1_8 := Lib.hid (Va1_7.out.below hbA)
    have RW_8 := Lib.hid (RW_7.out.below hbA)
    have Vw_8 := Lib.hid (Vw_7.out.below hbA)
    have X0_8 := Lib.hid (X0_7.out.below hbA)
    have Vx0_8 := Lib.hid (Vx0_7.out.below hbA)
    have X1_8 := Lib.hid (X1_7.out.below hbA)
    have Vx1_8 := Lib.hid (varT_new w3 x1 y1 Bw3 zs1.length dw3 27)
    have ow4 : w3.heap.size < (w3.alloc (.cells #[.int .i64 x1, .int .i64 y1, .slice Bw3 zs1.length dw3] 27)).heap.size := Vx1_8.out.lt
    clear hbA R0_7 R1_7 C_7 Va0_7 Va1_7 RW_7 Vw_7 X0_7 Vx0_7 X1_7
    go_wp2_with fail
    clear Vx0c0 Vx0c1 Vx0c2 Vx0lt
    generalize w3.alloc (.cells #[.int .i64 x1, .int .i64 y1, .slice Bw3 zs1.length dw3] 27) = w4 at *
    refine (HIM.out w4 _ _ _ _ X0_8.out.toRow X1_8.out.toRow).mono ?_
    rintro e w5 ⟨Ag, cg, rfl, Tw5, hbw5⟩
    have R0_9 := Lib.hid (R0_8.out.below (hbw5.out.mono C_8.out.size))
    have R1_9 := Lib.hid (R1_8.out.below (hbw5.out.mono C_8.out.size))
    have C_9 := Lib.hid (C_8.out.trans (hbw5.out.mono C_8.out.size))
    have Va0_9 := Lib.hid (Va0_8.out.below hbw5.out)
    have Va1_9 := Lib.hid (Va1_8.out.below hbw5.out)
    have RW_9 := Lib.hid (RW_8.out.below hbw5.out)
    have Vw_9 := Lib.hid (Vw_8.out.below hbw5.out)
    have X0_9 := Lib.hid (X0_8.out.below hbw5.out)
    have Vx0_9 := Lib.hid (Vx0_8.out.below hbw5.out)
    have X1_9 := Lib.hid (X1_8.out.below hbw5.out)
    have Vx1_9 := Lib.hid (Vx1_8.out.below hbw5.out)
    have RG_9 := Tw5
    have ow5 := hbw5.out.size
    clear Tw5 hbw5 R0_8 R1_8 C_8 Va0_8 Va1_8 RW_8 Vw_8 X0_8 Vx0_8 X1_8 Vx1_8
    have Vwc0 := Vw_9.out.c0
    have Vwc1 := Vw_9.out.c1
    have Vwc2 := Vw_9.out.c2
    have Vwlt := Vw_9.out.lt
    have hbA := below_var w5 fx fy Ag ys.length cg 27
    have R0_10 := Lib.hid (R0_9.out.below (hbA.mono C_9.out.size))
    have R1_10 := Lib.hid (R1_9.out.below (hbA.mono C_9.out.size))
    have C_10 := Lib.hid (C_9.out.trans (hbA.mono C_9.out.size))
    have Va0_10 := Lib.hid (Va0_9.out.below hbA)
    have Va1_10 := Lib.hid (Va1_9.out.below hbA)
    have RW_10 := Lib.hid (RW_9.out.below hbA)
    have Vw_10 := Lib.hid (Vw_9.out.below hbA)
    have X0_10 := Lib.hid (X0_9.out.below hbA)
    have Vx0_10 := Lib.hid (Vx0_9.out.below hbA)
    have X1_10 := Lib.hid (X1_9.out.below hbA)
    have Vx1_10 := Lib.hid (Vx1_9.out.below hbA)
    have RG_10 := Lib.hid (RG_9.out.below hbA)
    have Vg_10 := Lib.hid (varT_new w5 fx fy Ag ys.length cg 27)
    have ow6 : w5.heap.size < (w5.alloc (.cells #[.int .i64 fx, .int .i64 fy, .slice Ag ys.length cg] 27)).heap.size := Vg_10.out.lt
    clear hbA R0_9 R1_9 C_9 Va0_9 Va1_9 RW_9 Vw_9 X0_9 Vx0_9 X1_9 Vx1_9 RG_9
    go_wp2_with fail
    clear Vwc0 Vwc1 Vwc2 Vwlt
    generalize w5.alloc (.cells #[.int .i64 fx, .int .i64 fy, .slice Ag ys.length cg] 27) = w6 at *
    refine (eqT fx fy _ _ _ _ _ _ _ _ ys w6 RG_10.out RW_10.out hys).mono ?_
    rintro e w7 ⟨rfl, hbe⟩
    have R0_11 := Lib.hid (R0_10.out.below (hbe.out.mono C_10.out.size))
    have R1_11 := Lib.hid (R1_10.out.below (hbe.out.mono C_10.out.size))
    have C_11 := Lib.hid (C_10.out.trans (hbe.out.mono C_10.out.size))
    have Va0_11 := Lib.hid (Va0_10.out.below hbe.out)
    have Va1_11 := Lib.hid (Va1_10.out.below hbe.out)
    have RW_11 := Lib.hid (RW_10.out.below hbe.out)
    have Vw_11 := Lib.hid (Vw_10.out.below hbe.out)
    have X0_11 := Lib.hid (X0_10.out.below hbe.out)
    have Vx0_11 := Lib.hid (Vx0_10.out.below hbe.out)
    have X1_11 := Lib.hid (X1_10.out.below hbe.out)
    have Vx1_11 := Lib.hid (Vx1_10.out.below hbe.out)
    have RG_11 := Lib.hid (RG_10.out.below hbe.out)
    have Vg_11 := Lib.hid (Vg_10.out.below hbe.out)
    have ow7 := hbe.out.size
    clear hbe R0_10 R1_10 C_10 Va0_10 Va1_10 RW_10 Vw_10 X0_10 Vx0_10 X1_10 Vx1_10 RG_10 Vg_10
    -- the copy is as it was
    have Vx0c0 := Vx0_11.out.c0
    have Vx0c1 := Vx0_11.out.c1
    have Vx0c2 := Vx0_11.out.c2
    have Vx0lt := Vx0_11.out.lt
    have Va0c0 := Va0_11.out.c0
    have Va0c1 := Va0_11.out.c1
    have Va0c2 := Va0_11.out.c2
    have Va0lt := Va0_11.out.lt
    go_wp2_with fail
    have hR6 : Hid (RowF w7 w7.heap.size A0 zs0) := R0_11.out.mono C_11.out.size
    have hX6 := X0_11
    have x6 : w.heap.size < w7.heap.size := Va0_11.out.lt
    have y6 : w1.heap.size < w7.heap.size := Vx0_11.out.lt
    have K0 : Hid (Below w7.heap.size w7 w7.drew) := (Below.refl _ _).drew
    go_region_held3 (fun w' => w'.cell? ⟨w1.heap.size, 0, none⟩ = some (.int .i64 x0) ∧ w'.cell? ⟨w1.heap.size, 1, none⟩ = some (.int .i64 y0) ∧ w'.cell? ⟨w1.heap.size, 2, none⟩ = some (.slice Bw1 zs0.length dw1) ∧ w'.cell? ⟨w.heap.size, 0, none⟩ = some (.int .i64 x0) ∧ w'.cell? ⟨w.heap.size, 1, none⟩ = some (.int .i64 y0) ∧ w'.cell? ⟨w.heap.size, 2, none⟩ = some (.slice A0 zs0.length c0) ∧ Hid (Below w7.heap.size w7 w')) (first | (exact ⟨by assumption, by assumption, by assumption, by assumption, by assumption, by assumption, by assumption⟩) | go_keep)
      (first
        | ((go_at_call 13; refine (toSheetO x0 y0 A0 c0 zs0 _ (hR6.out.carry ((‹Hid (Below w7.heap.size w7 _)›).out)) hn0).mono ?_; rintro e wq7 ⟨A7, c7, rfl, O7, hb7⟩; have K7 := Lib.hid ((‹Hid (Below w7.heap.size w7 _)›).out.trans (hb7.out.mono (‹Hid (Below w7.heap.size w7 _)›).out.size)); obtain ⟨e0, e1, e2⟩ := keepT (v := w.heap.size) hb7.out (by assumption) (by assumption) (by assumption) (by assumption) x6; obtain ⟨f0, f1, f2⟩ := keepT (v := w1.heap.size) hb7.out (by assumption) (by assumption) (by assumption) (by assumption) y6))
        | ((go_at_call 15; refine (eqT x0 y0 _ _ _ _ _ _ _ _ zs0 _ (hX6.out.below ((‹Hid (Below w7.heap.size w7 _)›).out)) (‹Hid (RowIn _ _ _ A7 _)›).out hn0).mono ?_; rintro e w8x0 ⟨rfl, hb8⟩; have K8 := Lib.hid ((‹Hid (Below w7.heap.size w7 _)›).out.trans (hb8.out.mono (‹Hid (Below w7.heap.size w7 _)›).out.size)); obtain ⟨e0, e1, e2⟩ := keepT (v := w.heap.size) hb8.out (by assumption) (by assumption) (by assumption) (by assumption) x6; obtain ⟨f0, f1, f2⟩ := keepT (v := w1.heap.size) hb8.out (by assumption) (by assumption) (by assumption) (by assumption) y6)))
    have hb9 := Lib.hid ((‹Hid (Below w7.heap.size w7 w8x0)›).out)
    clear Vx0c0 Vx0c1 Vx0c2 Vx0lt Va0c0 Va0c1 Va0c2 Va0lt hR6 hX6 x6 y6 K0
    have R0_12 := Lib.hid (R0_11.out.below (hb9.out.mono C_11.out.size))
    have R1_12 := Lib.hid (R1_11.out.below (hb9.out.mono C_11.out.size))
    have C_12 := Lib.hid (C_11.out.trans (hb9.out.mono C_11.out.size))
    have Va0_12 := Lib.hid (Va0_11.out.below hb9.out)
    have Va1_12 := Lib.hid (Va1_11.out.below hb9.out)
    have RW_12 := Lib.hid (RW_11.out.below hb9.out)
    have Vw_12 := Lib.hid (Vw_11.out.below hb9.out)
    have X0_12 := Lib.hid (X0_11.out.below hb9.out)
    have Vx0_12 := Lib.hid (Vx0_11.out.below hb9.out)
    have X1_12 := Lib.hid (X1_11.out.below hb9.out)
    have Vx1_12 := Lib.hid (Vx1_11.out.below hb9.out)
    have RG_12 := Lib.hid (RG_11.out.below hb9.out)
    have Vg_12 := Lib.hid (Vg_11.out.below hb9.out)
    have ow8 := hb9.out.size
    clear hb9 R0_11 R1_11 C_11 Va0_11 Va1_11 RW_11 Vw_11 X0_11 Vx0_11 X1_11 Vx1_11 RG_11 Vg_11
    -- the copy is as it was
    have Vx1c0 := Vx1_12.out.c0
    have Vx1c1 := Vx1_12.out.c1
    have Vx1c2 := Vx1_12.out.c2
    have Vx1lt := Vx1_12.out.lt
    have Va1c0 := Va1_12.out.c0
    have Va1c1 := Va1_12.out.c1
    have Va1c2 := Va1_12.out.c2
    have Va1lt := Va1_12.out.lt
    go_wp2_with fail
    have hR6 : Hid (RowF w8x0 w8x0.heap.size A1 zs1) := R1_12.out.mono C_12.out.size
    have hX6 := X1_12
    have x6 : (w.heap.size + 1) < w8x0.heap.size := Va1_12.out.lt
    have y6 : w3.heap.size < w8x0.heap.size := Vx1_12.out.lt
    have K0 : Hid (Below w8x0.heap.size w8x0 w8x0.drew) := (Below.refl _ _).drew
    go_region_held3 (fun w' => w'.cell? ⟨w3.heap.size, 0, none⟩ = some (.int .i64 x1) ∧ w'.cell? ⟨w3.heap.size, 1, none⟩ = some (.int .i64 y1) ∧ w'.cell? ⟨w3.heap.size, 2, none⟩ = some (.slice Bw3 zs1.length dw3) ∧ w'.cell? ⟨(w.heap.size + 1), 0, none⟩ = some (.int .i64 x1) ∧ w'.cell? ⟨(w.heap.size + 1), 1, none⟩ = some (.int .i64 y1) ∧ w'.cell? ⟨(w.heap.size + 1), 2, none⟩ = some (.slice A1 zs1.length c1) ∧ Hid (Below w8x0.heap.size w8x0 w')) (first | (exact ⟨by assumption, by assumption, by assumption, by assumption, by assumption, by assumption, by assumption⟩) | go_keep)
      (first
        | ((go_at_call 13; refine (toSheetO x1 y1 A1 c1 zs1 _ (hR6.out.carry ((‹Hid (Below w8x0.heap.size w8x0 _)›).out)) hn1).mono ?_; rintro e wq7 ⟨A7, c7, rfl, O7, hb7⟩; have K7 := Lib.hid ((‹Hid (Below w8x0.heap.size w8x0 _)›).out.trans (hb7.out.mono (‹Hid (Below w8x0.heap.size w8x0 _)›).out.size)); obtain ⟨e0, e1, e2⟩ := keepT (v := (w.heap.size + 1)) hb7.out (by assumption) (by assumption) (by assumption) (by assumption) x6; obtain ⟨f0, f1, f2⟩ := keepT (v := w3.heap.size) hb7.out (by assumption) (by assumption) (by assumption) (by assumption) y6))
        | ((go_at_call 15; refine (eqT x1 y1 _ _ _ _ _ _ _ _ zs1 _ (hX6.out.below ((‹Hid (Below w8x0.heap.size w8x0 _)›).out)) (‹Hid (RowIn _ _ _ A7 _)›).out hn1).mono ?_; rintro e w8x1 ⟨rfl, hb8⟩; have K8 := Lib.hid ((‹Hid (Below w8x0.heap.size w8x0 _)›).out.trans (hb8.out.mono (‹Hid (Below w8x0.heap.size w8x0 _)›).out.size)); obtain ⟨e0, e1, e2⟩ := keepT (v := (w.heap.size + 1)) hb8.out (by assumption) (by assumption) (by assumption) (by assumption) x6; obtain ⟨f0, f1, f2⟩ := keepT (v := w3.heap.size) hb8.out (by assumption) (by assumption) (by assumption) (by assumption) y6)))
    have hb9 := Lib.hid ((‹Hid (Below w8x0.heap.size w8x0 w8x1)›).out)
    clear Vx1c0 Vx1c1 Vx1c2 Vx1lt Va1c0 Va1c1 Va1c2 Va1lt hR6 hX6 x6 y6 K0
    have R0_13 := Lib.hid (R0_12.out.below (hb9.out.mono C_12.out.size))
    have R1_13 := Lib.hid (R1_12.out.below (hb9.out.mono C_12.out.size))
    have C_13 := Lib.hid (C_12.out.trans (hb9.out.mono C_12.out.size))
    have Va0_13 := Lib.hid (Va0_12.out.below hb9.out)
    have Va1_13 := Lib.hid (Va1_12.out.below hb9.out)
    have RW_13 := Lib.hid (RW_12.out.below hb9.out)
    have Vw_13 := Lib.hid (Vw_12.out.below hb9.out)
    have X0_13 := Lib.hid (X0_12.out.below hb9.out)
    have Vx0_13 := Lib.hid (Vx0_12.out.below hb9.out)
    have X1_13 := Lib.hid (X1_12.out.below hb9.out)
    have Vx1_13 := Lib.hid (Vx1_12.out.below hb9.out)
    have RG_13 := Lib.hid (RG_12.out.below hb9.out)
    have Vg_13 := Lib.hid (Vg_12.out.below hb9.out)
    have ow9 := hb9.out.size
    clear hb9 R0_12 R1_12 C_12 Va0_12 Va1_12 RW_12 Vw_12 X0_12 Vx0_12 X1_12 Vx1_12 RG_12 Vg_12
    have Vx0c0 := Vx0_13.out.c0
    have Vx0c1 := Vx0_13.out.c1
    have Vx0c2 := Vx0_13.out.c2
    have Vx0lt := Vx0_13.out.lt
    go_wp2_with fail
    clear Vx0c0 Vx0c1 Vx0c2 Vx0lt
    refine (markTk _ _ _ _ 1 wNw.heap.size w1.heap.size zs0 w8x1 X0_13.out hn0 (by omega)).mono ?_
    rintro e w10 ⟨rfl, _, hbm⟩
    clear X0_13
    have R0_14 := Lib.hid (R0_13.out.butIn hbm.out C_13.out.size (.inl (by omega)))
    have R1_14 := Lib.hid (R1_13.out.butIn hbm.out C_13.out.size (.inl (by omega)))
    have C_14 := Lib.hid (C_13.out.trans (hbm.out.toBelow (by omega) C_13.out.size))
    have Va0_14 := Lib.hid (Va0_13.out.but hbm.out (by omega))
    have Va1_14 := Lib.hid (Va1_13.out.but hbm.out (by omega))
    have RW_14 := Lib.hid (RW_13.out.but hbm.out (by omega))
    have Vw_14 := Lib.hid (Vw_13.out.but hbm.out (by omega))
    have Vx0_14 := Lib.hid (Vx0_13.out.but hbm.out (by omega))
    have X1_14 := Lib.hid (X1_13.out.but hbm.out (by omega))
    have Vx1_14 := Lib.hid (Vx1_13.out.but hbm.out (by omega))
    have RG_14 := Lib.hid (RG_13.out.but hbm.out (by omega))
    have Vg_14 := Lib.hid (Vg_13.out.but hbm.out (by omega))
    have ow10 := hbm.out.size
    clear hbm R0_13 R1_13 C_13 Va0_13 Va1_13 RW_13 Vw_13 Vx0_13 X1_13 Vx1_13 RG_13 Vg_13
    have Vx1c0 := Vx1_14.out.c0
    have Vx1c1 := Vx1_14.out.c1
    have Vx1c2 := Vx1_14.out.c2
    have Vx1lt := Vx1_14.out.lt
    go_wp2_with fail
    clear Vx1c0 Vx1c1 Vx1c2 Vx1lt
    refine (markTk _ _ _ _ (1 + zs0.length) w2.heap.size w3.heap.size zs1 w10 X1_14.out hn1 (by omega)).mono ?_
    rintro e w11 ⟨rfl, _, hbm⟩
    clear X1_14
    have R0_15 := Lib.hid (R0_14.out.butIn hbm.out C_14.out.size (.inl (by omega)))
    have R1_15 := Lib.hid (R1_14.out.butIn hbm.out C_14.out.size (.inl (by omega)))
    have C_15 := Lib.hid (C_14.out.trans (hbm.out.toBelow (by omega) C_14.out.size))
    have Va0_15 := Lib.hid (Va0_14.out.but hbm.out (by omega))
    have Va1_15 := Lib.hid (Va1_14.out.but hbm.out (by omega))
    have RW_15 := Lib.hid (RW_14.out.but hbm.out (by omega))
    have Vw_15 := Lib.hid (Vw_14.out.but hbm.out (by omega))
    have Vx0_15 := Lib.hid (Vx0_14.out.but hbm.out (by omega))
    have Vx1_15 := Lib.hid (Vx1_14.out.but hbm.out (by omega))
    have RG_15 := Lib.hid (RG_14.out.but hbm.out (by omega))
    have Vg_15 := Lib.hid (Vg_14.out.but hbm.out (by omega))
    have ow11 := hbm.out.size
    clear hbm R0_14 R1_14 C_14 Va0_14 Va1_14 RW_14 Vw_14 Vx0_14 Vx1_14 RG_14 Vg_14
    have Vgc0 := Vg_15.out.c0
    have Vgc1 := Vg_15.out.c1
    have Vgc2 := Vg_15.out.c2
    have Vglt := Vg_15.out.lt
    have Vwc0 := Vw_15.out.c0
    have Vwc1 := Vw_15.out.c1
    have Vwc2 := Vw_15.out.c2
    have Vwlt := Vw_15.out.lt
    go_wp2_with fail
    clear Vgc0 Vgc1 Vgc2 Vglt Vwc0 Vwc1 Vwc2 Vwlt
    refine (eqT fx fy _ _ _ _ _ _ _ _ ys w11 RG_15.out RW_15.out hys).mono ?_
    rintro e w12 ⟨rfl, hbe⟩
    have R0_16 := Lib.hid (R0_15.out.below (hbe.out.mono C_15.out.size))
    have R1_16 := Lib.hid (R1_15.out.below (hbe.out.mono C_15.out.size))
    have C_16 := Lib.hid (C_15.out.trans (hbe.out.mono C_15.out.size))
    have Va0_16 := Lib.hid (Va0_15.out.below hbe.out)
    have Va1_16 := Lib.hid (Va1_15.out.below hbe.out)
    have RW_16 := Lib.hid (RW_15.out.below hbe.out)
    have Vw_16 := Lib.hid (Vw_15.out.below hbe.out)
    have Vx0_16 := Lib.hid (Vx0_15.out.below hbe.out)
    have Vx1_16 := Lib.hid (Vx1_15.out.below hbe.out)
    have RG_16 := Lib.hid (RG_15.out.below hbe.out)
    have Vg_16 := Lib.hid (Vg_15.out.below hbe.out)
    have ow12 := hbe.out.size
    clear hbe R0_15 R1_15 C_15 Va0_15 Va1_15 RW_15 Vw_15 Vx0_15 Vx1_15 RG_15 Vg_15
    -- what came back is marked
    have Vgc0 := Vg_16.out.c0
    have Vgc1 := Vg_16.out.c1
    have Vgc2 := Vg_16.out.c2
    have Vglt := Vg_16.out.lt
    go_wp2_with fail
    clear Vgc0 Vgc1 Vgc2 Vglt
    refine (markTk _ _ _ _ 1 w4.heap.size w5.heap.size ys w12 RG_16.out hys (by omega)).mono ?_
    rintro e w13 ⟨rfl, RGm, hbm⟩
    clear RG_16
    have R0_17 := Lib.hid (R0_16.out.butIn hbm.out C_16.out.size (.inl (by omega)))
    have R1_17 := Lib.hid (R1_16.out.butIn hbm.out C_16.out.size (.inl (by omega)))
    have C_17 := Lib.hid (C_16.out.trans (hbm.out.toBelow (by omega) C_16.out.size))
    have Va0_17 := Lib.hid (Va0_16.out.but hbm.out (by omega))
    have Va1_17 := Lib.hid (Va1_16.out.but hbm.out (by omega))
    have RW_17 := Lib.hid (RW_16.out.but hbm.out (by omega))
    have Vw_17 := Lib.hid (Vw_16.out.but hbm.out (by omega))
    have Vx0_17 := Lib.hid (Vx0_16.out.but hbm.out (by omega))
    have Vx1_17 := Lib.hid (Vx1_16.out.but hbm.out (by omega))
    have Vg_17 := Lib.hid (Vg_16.out.but hbm.out (by omega))
    have ow13 := hbm.out.size
    have RM_17 := RGm
    clear hbm RGm R0_16 R1_16 C_16 Va0_16 Va1_16 RW_16 Vw_16 Vx0_16 Vx1_16 Vg_16
    have Vgc0 := Vg_17.out.c0
    have Vgc1 := Vg_17.out.c1
    have Vgc2 := Vg_17.out.c2
    have Vglt := Vg_17.out.lt
    go_wp2_with fail
    clear Vgc0 Vgc1 Vgc2 Vglt
    refine (heldT _ _ _ _ _ _ ys.length w13 RM_17.out hys).mono ?_
    rintro e w14 ⟨rfl, hbh⟩
    have R0_18 := Lib.hid (R0_17.out.below (hbh.out.mono C_17.out.size))
    have R1_18 := Lib.hid (R1_17.out.below (hbh.out.mono C_17.out.size))
    have C_18 := Lib.hid (C_17.out.trans (hbh.out.mono C_17.out.size))
    have Va0_18 := Lib.hid (Va0_17.out.below hbh.out)
    have Va1_18 := Lib.hid (Va1_17.out.below hbh.out)
    have RW_18 := Lib.hid (RW_17.out.below hbh.out)
    have Vw_18 := Lib.hid (Vw_17.out.below hbh.out)
    have Vx0_18 := Lib.hid (Vx0_17.out.below hbh.out)
    have Vx1_18 := Lib.hid (Vx1_17.out.below hbh.out)
    have Vg_18 := Lib.hid (Vg_17.out.below hbh.out)
    have RM_18 := Lib.hid (RM_17.out.below hbh.out)
    have ow14 := hbh.out.size
    clear hbh R0_17 R1_17 C_17 Va0_17 Va1_17 RW_17 Vw_17 Vx0_17 Vx1_17 Vg_17 RM_17
    -- once more
    have Va0c0 := Va0_18.out.c0
    have Va0c1 := Va0_18.out.c1
    have Va0c2 := Va0_18.out.c2
    have Va0lt := Va0_18.out.lt
    have Va1c0 := Va1_18.out.c0
    have Va1c1 := Va1_18.out.c1
    have Va1c2 := Va1_18.out.c2
    have Va1lt := Va1_18.out.lt
    go_wp2_with fail
    have hR6_0 : Hid (RowF w14 w14.heap.size A0 zs0) := R0_18.out.mono C_18.out.size
    have x6_0 : w.heap.size < w14.heap.size := Va0_18.out.lt
    have hR6_1 : Hid (RowF w14 w14.heap.size A1 zs1) := R1_18.out.mono C_18.out.size
    have x6_1 : (w.heap.size + 1) < w14.heap.size := Va1_18.out.lt
    have K0 : Hid (Below w14.heap.size w14 w14.drew) := (Below.refl _ _).drew
    have K00 : Hid (Below w14.heap.size w14 w14) := Below.refl _ _
    have dd00 : w14.drew.cell? ⟨w.heap.size, 0, none⟩ = some (.int .i64 x0) := Va0c0
    have de00 : (w14.alloc (.cells #[.int .i64 0, .int .i64 0, .slice none 0 0] 27)).drew.cell? ⟨w.heap.size, 0, none⟩ = some (.int .i64 x0) := cell_ald _ Va0c0
    have dd01 : w14.drew.cell? ⟨w.heap.size, 1, none⟩ = some (.int .i64 y0) := Va0c1
    have de01 : (w14.alloc (.cells #[.int .i64 0, .int .i64 0, .slice none 0 0] 27)).drew.cell? ⟨w.heap.size, 1, none⟩ = some (.int .i64 y0) := cell_ald _ Va0c1
    have dd02 : w14.drew.cell? ⟨w.heap.size, 2, none⟩ = some (.slice A0 zs0.length c0) := Va0c2
    have de02 : (w14.alloc (.cells #[.int .i64 0, .int .i64 0, .slice none 0 0] 27)).drew.cell? ⟨w.heap.size, 2, none⟩ = some (.slice A0 zs0.length c0) := cell_ald _ Va0c2
    have dd10 : w14.drew.cell? ⟨(w.heap.size + 1), 0, none⟩ = some (.int .i64 x1) := Va1c0
    have de10 : (w14.alloc (.cells #[.int .i64 0, .int .i64 0, .slice none 0 0] 27)).drew.cell? ⟨(w.heap.size + 1), 0, none⟩ = some (.int .i64 x1) := cell_ald _ Va1c0
    have dd11 : w14.drew.cell? ⟨(w.heap.size + 1), 1, none⟩ = some (.int .i64 y1) := Va1c1
    have de11 : (w14.alloc (.cells #[.int .i64 0, .int .i64 0, .slice none 0 0] 27)).drew.cell? ⟨(w.heap.size + 1), 1, none⟩ = some (.int .i64 y1) := cell_ald _ Va1c1
    have dd12 : w14.drew.cell? ⟨(w.heap.size + 1), 2, none⟩ = some (.slice A1 zs1.length c1) := Va1c2
    have de12 : (w14.alloc (.cells #[.int .i64 0, .int .i64 0, .slice none 0 0] 27)).drew.cell? ⟨(w.heap.size + 1), 2, none⟩ = some (.slice A1 zs1.length c1) := cell_ald _ Va1c2
    go_region_held3 (fun w' => w'.cell? ⟨w.heap.size, 0, none⟩ = some (.int .i64 x0) ∧ w'.cell? ⟨w.heap.size, 1, none⟩ = some (.int .i64 y0) ∧ w'.cell? ⟨w.heap.size, 2, none⟩ = some (.slice A0 zs0.length c0) ∧ w'.cell? ⟨(w.heap.size + 1), 0, none⟩ = some (.int .i64 x1) ∧ w'.cell? ⟨(w.heap.size + 1), 1, none⟩ = some (.int .i64 y1) ∧ w'.cell? ⟨(w.heap.size + 1), 2, none⟩ = some (.slice A1 zs1.length c1) ∧ Hid (Below w14.heap.size w14 w')) (first | (with_reducible exact ⟨by assumption, by assumption, by assumption, by assumption, by assumption, by assumption, by assumption⟩) | (with_reducible exact ⟨cell_al _ (by assumption), cell_al _ (by assumption), cell_al _ (by assumption), cell_al _ (by assumption), cell_al _ (by assumption), cell_al _ (by assumption), hb_al _ (by assumption)⟩) | (with_reducible exact ⟨cell_s3 (by assumption) (by omega), cell_s3 (by assumption) (by omega), cell_s3 (by assumption) (by omega), cell_s3 (by assumption) (by omega), cell_s3 (by assumption) (by omega), cell_s3 (by assumption) (by omega), hb_s3 (by assumption) (by omega)⟩) | (refine ⟨?_, ?_, ?_, ?_, ?_, ?_, ?_⟩ <;> (first | (with_reducible assumption) | (with_reducible exact cell_al _ (by assumption)) | (with_reducible exact hb_al _ (by assumption)) | (with_reducible exact cell_ald _ (by assumption)) | (with_reducible exact hb_ald _ (by assumption)))) | go_keep)
      (first
        | ((go_at_call 13; (with_reducible refine (toSheetO x0 y0 A0 c0 zs0 _ (hR6_0.out.carry ((show Hid (Below w14.heap.size w14 _) by first | (with_reducible assumption) | (with_reducible exact hb_al _ (by assumption)) | (with_reducible exact hb_ald _ (by assumption)) | assumption).out)) hn0).mono ?_); rintro e wt0h ⟨At0h, ct0h, rfl, Ot0, hbt0⟩; have Kt0 := Lib.hid ((show Hid (Below w14.heap.size w14 _) by first | (with_reducible assumption) | (with_reducible exact hb_al _ (by assumption)) | (with_reducible exact hb_ald _ (by assumption)) | assumption).out.trans (hbt0.out.mono (show Hid (Below w14.heap.size w14 _) by first | (with_reducible assumption) | (with_reducible exact hb_al _ (by assumption)) | (with_reducible exact hb_ald _ (by assumption)) | assumption).out.size)); obtain ⟨e00, e01, e02⟩ := keepT (v := w.heap.size) hbt0.out (by first | (with_reducible assumption) | (with_reducible exact cell_al _ (by assumption)) | (with_reducible exact hb_al _ (by assumption)) | (with_reducible exact hb_ald _ (by assumption)) | assumption) (by first | (with_reducible assumption) | (with_reducible exact cell_al _ (by assumption)) | (with_reducible exact hb_al _ (by assumption)) | (with_reducible exact hb_ald _ (by assumption)) | assumption) (by first | (with_reducible assumption) | (with_reducible exact cell_al _ (by assumption)) | (with_reducible exact hb_al _ (by assumption)) | (with_reducible exact hb_ald _ (by assumption)) | assumption) (by first | (with_reducible assumption) | (with_reducible exact cell_al _ (by assumption)) | (with_reducible exact hb_al _ (by assumption)) | (with_reducible exact hb_ald _ (by assumption)) | assumption) x6_0; obtain ⟨e10, e11, e12⟩ := keepT (v := (w.heap.size + 1)) hbt0.out (by first | (with_reducible assumption) | (with_reducible exact cell_al _ (by assumption)) | (with_reducible exact hb_al _ (by assumption)) | (with_reducible exact hb_ald _ (by assumption)) | assumption) (by first | (with_reducible assumption) | (with_reducible exact cell_al _ (by assumption)) | (with_reducible exact hb_al _ (by assumption)) | (with_reducible exact hb_ald _ (by assumption)) | assumption) (by first | (with_reducible assumption) | (with_reducible exact cell_al _ (by assumption)) | (with_reducible exact hb_al _ (by assumption)) | (with_reducible exact hb_ald _ (by assumption)) | assumption) (by first | (with_reducible assumption) | (with_reducible exact cell_al _ (by assumption)) | (with_reducible exact hb_al _ (by assumption)) | (with_reducible exact hb_ald _ (by assumption)) | assumption) x6_1; (try have Oc1 := Lib.hid ((‹Hid (RowIn _ _ _ At1h _)›).out.below hbt0.out)); (try have Oc1 := Lib.hid (((‹Hid (RowIn _ _ _ At1h _)›).out.below_alloc _).below hbt0.out)); (try have Z := Lib.hid (Zn.keep hbt0.out (by with_reducible assumption : Hid (Zn _ _ _)).out)); (try have Z := Lib.hid (Zn.new (by with_reducible assumption : Hid (Below w14.heap.size w14 _)).out.size hbt0.out)); (try have Z := Lib.hid (Zn.newd (Nat.le_refl w14.heap.size) hbt0.out)); (try have z0 := Z.out.c0); (try have z1 := Z.out.c1); (try have z2 := Z.out.c2); (try have zf0 := Z.out.f0); (try have zf1 := Z.out.f1); (try have zf2 := Z.out.f2); (try have zl := Z.out.lt); (try have zg := Z.out.ge)))
        | ((go_at_call 13; (with_reducible refine (toSheetO x1 y1 A1 c1 zs1 _ (hR6_1.out.carry ((show Hid (Below w14.heap.size w14 _) by first | (with_reducible assumption) | (with_reducible exact hb_al _ (by assumption)) | (with_reducible exact hb_ald _ (by assumption)) | assumption).out)) hn1).mono ?_); rintro e wt1h ⟨At1h, ct1h, rfl, Ot1, hbt1⟩; have Kt1 := Lib.hid ((show Hid (Below w14.heap.size w14 _) by first | (with_reducible assumption) | (with_reducible exact hb_al _ (by assumption)) | (with_reducible exact hb_ald _ (by assumption)) | assumption).out.trans (hbt1.out.mono (show Hid (Below w14.heap.size w14 _) by first | (with_reducible assumption) | (with_reducible exact hb_al _ (by assumption)) | (with_reducible exact hb_ald _ (by assumption)) | assumption).out.size)); obtain ⟨e00, e01, e02⟩ := keepT (v := w.heap.size) hbt1.out (by first | (with_reducible assumption) | (with_reducible exact cell_al _ (by assumption)) | (with_reducible exact hb_al _ (by assumption)) | (with_reducible exact hb_ald _ (by assumption)) | assumption) (by first | (with_reducible assumption) | (with_reducible exact cell_al _ (by assumption)) | (with_reducible exact hb_al _ (by assumption)) | (with_reducible exact hb_ald _ (by assumption)) | assumption) (by first | (with_reducible assumption) | (with_reducible exact cell_al _ (by assumption)) | (with_reducible exact hb_al _ (by assumption)) | (with_reducible exact hb_ald _ (by assumption)) | assumption) (by first | (with_reducible assumption) | (with_reducible exact cell_al _ (by assumption)) | (with_reducible exact hb_al _ (by assumption)) | (with_reducible exact hb_ald _ (by assumption)) | assumption) x6_0; obtain ⟨e10, e11, e12⟩ := keepT (v := (w.heap.size + 1)) hbt1.out (by first | (with_reducible assumption) | (with_reducible exact cell_al _ (by assumption)) | (with_reducible exact hb_al _ (by assumption)) | (with_reducible exact hb_ald _ (by assumption)) | assumption) (by first | (with_reducible assumption) | (with_reducible exact cell_al _ (by assumption)) | (with_reducible exact hb_al _ (by assumption)) | (with_reducible exact hb_ald _ (by assumption)) | assumption) (by first | (with_reducible assumption) | (with_reducible exact cell_al _ (by assumption)) | (with_reducible exact hb_al _ (by assumption)) | (with_reducible exact hb_ald _ (by assumption)) | assumption) (by first | (with_reducible assumption) | (with_reducible exact cell_al _ (by assumption)) | (with_reducible exact hb_al _ (by assumption)) | (with_reducible exact hb_ald _ (by assumption)) | assumption) x6_1; (try have Oc0 := Lib.hid ((‹Hid (RowIn _ _ _ At0h _)›).out.below hbt1.out)); (try have Oc0 := Lib.hid (((‹Hid (RowIn _ _ _ At0h _)›).out.below_alloc _).below hbt1.out)); (try have Z := Lib.hid (Zn.keep hbt1.out (by with_reducible assumption : Hid (Zn _ _ _)).out)); (try have Z := Lib.hid (Zn.new (by with_reducible assumption : Hid (Below w14.heap.size w14 _)).out.size hbt1.out)); (try have Z := Lib.hid (Zn.newd (Nat.le_refl w14.heap.size) hbt1.out)); (try have z0 := Z.out.c0); (try have z1 := Z.out.c1); (try have z2 := Z.out.c2); (try have zf0 := Z.out.f0); (try have zf1 := Z.out.f1); (try have zf2 := Z.out.f2); (try have zl := Z.out.lt); (try have zg := Z.out.ge)))
        | ((go_at_call 14; refine (HIM.out _ _ _ _ _ (by first | exact (‹Hid (RowIn _ _ _ At0h _)›).out.toRow | exact ((‹Hid (RowIn _ _ _ At0h _)›).out.below_alloc _).toRow) (by first | exact (‹Hid (RowIn _ _ _ At1h _)›).out.toRow | exact ((‹Hid (RowIn _ _ _ At1h _)›).out.below_alloc _).toRow)).mono ?_; rintro e w8h ⟨Ah, ch, rfl, TW, hb8⟩; have K8 := Lib.hid ((show Hid (Below w14.heap.size w14 _) by first | (with_reducible assumption) | (with_reducible exact hb_al _ (by assumption)) | (with_reducible exact hb_ald _ (by assumption)) | assumption).out.trans (hb8.out.mono (show Hid (Below w14.heap.size w14 _) by first | (with_reducible assumption) | (with_reducible exact hb_al _ (by assumption)) | (with_reducible exact hb_ald _ (by assumption)) | assumption).out.size)); obtain ⟨g00, g01, g02⟩ := keepT (v := w.heap.size) hb8.out (by first | (with_reducible assumption) | (with_reducible exact cell_al _ (by assumption)) | (with_reducible exact hb_al _ (by assumption)) | (with_reducible exact hb_ald _ (by assumption)) | assumption) (by first | (with_reducible assumption) | (with_reducible exact cell_al _ (by assumption)) | (with_reducible exact hb_al _ (by assumption)) | (with_reducible exact hb_ald _ (by assumption)) | assumption) (by first | (with_reducible assumption) | (with_reducible exact cell_al _ (by assumption)) | (with_reducible exact hb_al _ (by assumption)) | (with_reducible exact hb_ald _ (by assumption)) | assumption) (by first | (with_reducible assumption) | (with_reducible exact cell_al _ (by assumption)) | (with_reducible exact hb_al _ (by assumption)) | (with_reducible exact hb_ald _ (by assumption)) | assumption) x6_0; obtain ⟨g10, g11, g12⟩ := keepT (v := (w.heap.size + 1)) hb8.out (by first | (with_reducible assumption) | (with_reducible exact cell_al _ (by assumption)) | (with_reducible exact hb_al _ (by assumption)) | (with_reducible exact hb_ald _ (by assumption)) | assumption) (by first | (with_reducible assumption) | (with_reducible exact cell_al _ (by assumption)) | (with_reducible exact hb_al _ (by assumption)) | (with_reducible exact hb_ald _ (by assumption)) | assumption) (by first | (with_reducible assumption) | (with_reducible exact cell_al _ (by assumption)) | (with_reducible exact hb_al _ (by assumption)) | (with_reducible exact hb_ald _ (by assumption)) | assumption) (by first | (with_reducible assumption) | (with_reducible exact cell_al _ (by assumption)) | (with_reducible exact hb_al _ (by assumption)) | (with_reducible exact hb_ald _ (by assumption)) | assumption) x6_1; (try have Z := Lib.hid (Zn.keep hb8.out (by with_reducible assumption : Hid (Zn _ _ _)).out)); (try have Z := Lib.hid (Zn.new (by with_reducible assumption : Hid (Below w14.heap.size w14 _)).out.size hb8.out)); (try have Z := Lib.hid (Zn.newd (Nat.le_refl w14.heap.size) hb8.out)); (try have z0 := Z.out.c0); (try have z1 := Z.out.c1); (try have z2 := Z.out.c2); (try have zf0 := Z.out.f0); (try have zf1 := Z.out.f1); (try have zf2 := Z.out.f2); (try have zl := Z.out.lt); (try have zg := Z.out.ge))))
    all_goals
      first
      | (have FV : Hid (VarT (((w8h.setCell ⟨wt1h.heap.size, 0, none⟩ (.int .i64 fx)).setCell ⟨wt1h.heap.size, 1, none⟩ (.int .i64 fy)).setCell ⟨wt1h.heap.size, 2, none⟩ (.slice Ah ys.length ch)) wt1h.heap.size fx fy Ah ys.length ch) := Lib.hid (Z.out.var fx fy Ah ys.length ch); have k1 := Kt1.out.size; have FR : Hid (RowIn (((w8h.setCell ⟨wt1h.heap.size, 0, none⟩ (.int .i64 fx)).setCell ⟨wt1h.heap.size, 1, none⟩ (.int .i64 fy)).setCell ⟨wt1h.heap.size, 2, none⟩ (.slice Ah ys.length ch)) w14.heap.size (((w8h.setCell ⟨wt1h.heap.size, 0, none⟩ (.int .i64 fx)).setCell ⟨wt1h.heap.size, 1, none⟩ (.int .i64 fy)).setCell ⟨wt1h.heap.size, 2, none⟩ (.slice Ah ys.length ch)).heap.size Ah ys) := Lib.hid (Z.out.row TW.out (by first | omega | (simp; done) | (simp; omega)) (by first | omega | (simp; omega)) _ _ _); have FB : Hid (Below w14.heap.size w14 (((w8h.setCell ⟨wt1h.heap.size, 0, none⟩ (.int .i64 fx)).setCell ⟨wt1h.heap.size, 1, none⟩ (.int .i64 fy)).setCell ⟨wt1h.heap.size, 2, none⟩ (.slice Ah ys.length ch))) := hb_s3 K8 Z.out.ge; generalize (((w8h.setCell ⟨wt1h.heap.size, 0, none⟩ (.int .i64 fx)).setCell ⟨wt1h.heap.size, 1, none⟩ (.int .i64 fy)).setCell ⟨wt1h.heap.size, 2, none⟩ (.slice Ah ys.length ch)) = wNh at *)
      | (have FV : Hid (VarT (((w8h.setCell ⟨wt0h.heap.size, 0, none⟩ (.int .i64 fx)).setCell ⟨wt0h.heap.size, 1, none⟩ (.int .i64 fy)).setCell ⟨wt0h.heap.size, 2, none⟩ (.slice Ah ys.length ch)) wt0h.heap.size fx fy Ah ys.length ch) := Lib.hid (Z.out.var fx fy Ah ys.length ch); have k1 := Kt1.out.size; have FR : Hid (RowIn (((w8h.setCell ⟨wt0h.heap.size, 0, none⟩ (.int .i64 fx)).setCell ⟨wt0h.heap.size, 1, none⟩ (.int .i64 fy)).setCell ⟨wt0h.heap.size, 2, none⟩ (.slice Ah ys.length ch)) w14.heap.size (((w8h.setCell ⟨wt0h.heap.size, 0, none⟩ (.int .i64 fx)).setCell ⟨wt0h.heap.size, 1, none⟩ (.int .i64 fy)).setCell ⟨wt0h.heap.size, 2, none⟩ (.slice Ah ys.length ch)).heap.size Ah ys) := Lib.hid (Z.out.row TW.out (by first | omega | (simp; done) | (simp; omega)) (by first | omega | (simp; omega)) _ _ _); have FB : Hid (Below w14.heap.size w14 (((w8h.setCell ⟨wt0h.heap.size, 0, none⟩ (.int .i64 fx)).setCell ⟨wt0h.heap.size, 1, none⟩ (.int .i64 fy)).setCell ⟨wt0h.heap.size, 2, none⟩ (.slice Ah ys.length ch))) := hb_s3 K8 Z.out.ge; generalize (((w8h.setCell ⟨wt0h.heap.size, 0, none⟩ (.int .i64 fx)).setCell ⟨wt0h.heap.size, 1, none⟩ (.int .i64 fy)).setCell ⟨wt0h.heap.size, 2, none⟩ (.slice Ah ys.length ch)) = wNh at *)
      | (have FV : Hid (VarT (((w8h.setCell ⟨w14.heap.size, 0, none⟩ (.int .i64 fx)).setCell ⟨w14.heap.size, 1, none⟩ (.int .i64 fy)).setCell ⟨w14.heap.size, 2, none⟩ (.slice Ah ys.length ch)) w14.heap.size fx fy Ah ys.length ch) := Lib.hid (Z.out.var fx fy Ah ys.length ch); have k1 := Kt1.out.size; have FR : Hid (RowIn (((w8h.setCell ⟨w14.heap.size, 0, none⟩ (.int .i64 fx)).setCell ⟨w14.heap.size, 1, none⟩ (.int .i64 fy)).setCell ⟨w14.heap.size, 2, none⟩ (.slice Ah ys.length ch)) w14.heap.size (((w8h.setCell ⟨w14.heap.size, 0, none⟩ (.int .i64 fx)).setCell ⟨w14.heap.size, 1, none⟩ (.int .i64 fy)).setCell ⟨w14.heap.size, 2, none⟩ (.slice Ah ys.length ch)).heap.size Ah ys) := Lib.hid (Z.out.row TW.out (by first | omega | (simp; done) | (simp; omega)) (by first | omega | (simp; omega)) _ _ _); have FB : Hid (Below w14.heap.size w14 (((w8h.setCell ⟨w14.heap.size, 0, none⟩ (.int .i64 fx)).setCell ⟨w14.heap.size, 1, none⟩ (.int .i64 fy)).setCell ⟨w14.heap.size, 2, none⟩ (.slice Ah ys.length ch))) := hb_s3 K8 Z.out.ge; generalize (((w8h.setCell ⟨w14.heap.size, 0, none⟩ (.int .i64 fx)).setCell ⟨w14.heap.size, 1, none⟩ (.int .i64 fy)).setCell ⟨w14.heap.size, 2, none⟩ (.slice Ah ys.length ch)) = wNh at *)
      | (have FV : Hid (VarT (w8h.alloc (.cells #[.int .i64 fx, .int .i64 fy, .slice Ah ys.length ch] 27)) w8h.heap.size fx fy Ah ys.length ch) := Lib.hid (varT_new w8h fx fy Ah ys.length ch 27); have FR : Hid (RowIn (w8h.alloc (.cells #[.int .i64 fx, .int .i64 fy, .slice Ah ys.length ch] 27)) w14.heap.size w8h.heap.size Ah ys) := Lib.hid ((TW.out.lower Kt1.out.size).below_alloc _); have FB : Hid (Below w14.heap.size w14 (w8h.alloc (.cells #[.int .i64 fx, .int .i64 fy, .slice Ah ys.length ch] 27))) := hb_al _ K8; generalize (w8h.alloc (.cells #[.int .i64 fx, .int .i64 fy, .slice Ah ys.length ch] 27)) = wNh at *)
      have hb9 := FB
      have RWx := FR
      clear K8 TW hb8 Kt0 Kt1 Ot0 Ot1 hbt0 hbt1 e00 e01 e02 e10 e11 e12 FB FR K00
      try clear Oc0
      try clear Oc1
      try clear Z
      try clear z0 z1 z2 zf0 zf1 zf2
      clear Va0c0 Va0c1 Va0c2 Va0lt Va1c0 Va1c1 Va1c2 Va1lt K0 hR6_0 x6_0 hR6_1 x6_1 dd00 de00 dd01 de01 dd02 de02 dd10 de10 dd11 de11 dd12 de12
      have R0_19 := Lib.hid (R0_18.out.below (hb9.out.mono C_18.out.size))
      have R1_19 := Lib.hid (R1_18.out.below (hb9.out.mono C_18.out.size))
      have C_19 := Lib.hid (C_18.out.trans (hb9.out.mono C_18.out.size))
      have Va0_19 := Lib.hid (Va0_18.out.below hb9.out)
      have Va1_19 := Lib.hid (Va1_18.out.below hb9.out)
      have RW_19 := Lib.hid (RW_18.out.below hb9.out)
      have Vw_19 := Lib.hid (Vw_18.out.below hb9.out)
      have Vx0_19 := Lib.hid (Vx0_18.out.below hb9.out)
      have Vx1_19 := Lib.hid (Vx1_18.out.below hb9.out)
      have Vg_19 := Lib.hid (Vg_18.out.below hb9.out)
      have RM_19 := Lib.hid (RM_18.out.below hb9.out)
      have oN := hb9.out.size
      have RH_19 := RWx
      have Vh_19 := FV
      have ovw := FV.out.lt
      have ovg : w14.heap.size ≤ w14.heap.size := Nat.le_refl _
      clear hb9 RWx FV R0_18 R1_18 C_18 Va0_18 Va1_18 RW_18 Vw_18 Vx0_18 Vx1_18 Vg_18 RM_18
      have Vhc0 := Vh_19.out.c0
      have Vhc1 := Vh_19.out.c1
      have Vhc2 := Vh_19.out.c2
      have Vhlt := Vh_19.out.lt
      have Vwc0 := Vw_19.out.c0
      have Vwc1 := Vw_19.out.c1
      have Vwc2 := Vw_19.out.c2
      have Vwlt := Vw_19.out.lt
      go_wp2_with fail
      clear Vhc0 Vhc1 Vhc2 Vhlt Vwc0 Vwc1 Vwc2 Vwlt
      refine (eqT fx fy _ _ _ _ _ _ _ _ ys wNh RH_19.out RW_19.out hys).mono ?_
      rintro e w15 ⟨rfl, hbe⟩
      have R0_20 := Lib.hid (R0_19.out.below (hbe.out.mono C_19.out.size))
      have R1_20 := Lib.hid (R1_19.out.below (hbe.out.mono C_19.out.size))
      have C_20 := Lib.hid (C_19.out.trans (hbe.out.mono C_19.out.size))
      have Va0_20 := Lib.hid (Va0_19.out.below hbe.out)
      have Va1_20 := Lib.hid (Va1_19.out.below hbe.out)
      have RW_20 := Lib.hid (RW_19.out.below hbe.out)
      have Vw_20 := Lib.hid (Vw_19.out.below hbe.out)
      have Vx0_20 := Lib.hid (Vx0_19.out.below hbe.out)
      have Vx1_20 := Lib.hid (Vx1_19.out.below hbe.out)
      have Vg_20 := Lib.hid (Vg_19.out.below hbe.out)
      have RM_20 := Lib.hid (RM_19.out.below hbe.out)
      have RH_20 := Lib.hid (RH_19.out.below hbe.out)
      have Vh_20 := Lib.hid (Vh_19.out.below hbe.out)
      have ow15 := hbe.out.size
      clear hbe R0_19 R1_19 C_19 Va0_19 Va1_19 RW_19 Vw_19 Vx0_19 Vx1_19 Vg_19 RM_19 RH_19 Vh_19
      have Vgc0 := Vg_20.out.c0
      have Vgc1 := Vg_20.out.c1
      have Vgc2 := Vg_20.out.c2
      have Vglt := Vg_20.out.lt
      go_wp2_with fail
      clear Vgc0 Vgc1 Vgc2 Vglt
      refine (heldT _ _ _ _ _ _ ys.length w15 RM_20.out hys).mono ?_
      rintro e w16 ⟨rfl, hbh⟩
      have R0_21 := Lib.hid (R0_20.out.below (hbh.out.mono C_20.out.size))
      have R1_21 := Lib.hid (R1_20.out.below (hbh.out.mono C_20.out.size))
      have C_21 := Lib.hid (C_20.out.trans (hbh.out.mono C_20.out.size))
      have Va0_21 := Lib.hid (Va0_20.out.below hbh.out)
      have Va1_21 := Lib.hid (Va1_20.out.below hbh.out)
      have RW_21 := Lib.hid (RW_20.out.below hbh.out)
      have Vw_21 := Lib.hid (Vw_20.out.below hbh.out)
      have Vx0_21 := Lib.hid (Vx0_20.out.below hbh.out)
      have Vx1_21 := Lib.hid (Vx1_20.out.below hbh.out)
      have Vg_21 := Lib.hid (Vg_20.out.below hbh.out)
      have RM_21 := Lib.hid (RM_20.out.below hbh.out)
      have RH_21 := Lib.hid (RH_20.out.below hbh.out)
      have Vh_21 := Lib.hid (Vh_20.out.below hbh.out)
      have ow16 := hbh.out.size
      clear hbh R0_20 R1_20 C_20 Va0_20 Va1_20 RW_20 Vw_20 Vx0_20 Vx1_20 Vg_20 RM_20 RH_20 Vh_20
      go_wp2_with fail
      go_ret
      exact ⟨rfl, C_21.out⟩

end Go.Proofs.Ytckhdbnoihieeaa
