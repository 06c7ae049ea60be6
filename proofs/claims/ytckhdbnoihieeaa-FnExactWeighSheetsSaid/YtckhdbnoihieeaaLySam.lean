/-
  What is proved here: the law SameSheet, as a walk. Conditions: the sheets are ones that a machine can hold.
-/
import Derived.Test.YtckhdbnoihieeaaSsh
import Derived.Test.YtckhdbnoihieeaaLsk
import Derived.Test.YtckhdbnoihieeaaTfr
import Derived.Deep.RegionHeld3
namespace Go.Proofs.Ytckhdbnoihieeaa
open Flt Go.RowKit Go.ChangeShapes Go.WideShapes
set_option linter.unusedVariables false

theorem RowIn.below {w w' : World} {lo hi : Nat} {A : Option Addr} {zs : List Nat} (r : RowIn w lo hi A zs) (hb : Below w.heap.size w w') : RowIn w' lo hi A zs := r.but (ButIn.of hb) (.inr (Nat.zero_le _))
theorem szN_eq {n left : Nat} (h : n ≤ left) : szN n left = ((left - n : Nat) : Int) := by
  unfold szN
  rw [if_pos h]; omega
theorem below_var (w : World) (x y : Int) (A : Option Addr) (n c : Nat) (t : TypeId) : Below w.heap.size w (w.alloc (.cells #[.int .i64 x, .int .i64 y, .slice A n c] t)) := (Below.refl _ _).alloc (Nat.le_refl _) _
theorem sshBoth (x0 y0 : Int) (zs0 : List Nat) (x1 y1 : Int) (zs1 : List Nat) (h0 : AllW zs0) (h1 : AllW zs1) (hn0 : zs0.length ≤ 1048576) (hn1 : zs1.length ≤ 1048576) :
    ∃ b, (∀ (W : World) (A : Option Addr) (c : Nat) (B : Option Addr) (d : Nat), RowF W W.heap.size A zs0 → RowF W W.heap.size B zs1 → Calls Try.prog 27 #[.agg #[.int .i64 x0, .int .i64 y0, .slice A zs0.length c], .agg #[.int .i64 x1, .int .i64 y1, .slice B zs1.length d]] W fun e w' => e = .returned (.bool b) ∧ Hid (Below W.heap.size W w')) ∧
      ∀ (W : World) (A : Option Addr) (c : Nat) (B : Option Addr) (d : Nat), RowF W W.heap.size A zs0 → RowF W W.heap.size B zs1 → Calls Try.prog 28 #[.agg #[.int .i64 x0, .int .i64 y0, .slice A zs0.length c], .agg #[.int .i64 x1, .int .i64 y1, .slice B zs1.length d]] W fun e w' => e = .returned (.bool b) ∧ Hid (Below W.heap.size W w') :=
  ⟨sshB x0 y0 zs0 x1 y1 zs1, fun W A c B d hA hB => specSsh x0 y0 x1 y1 A B c d zs0 zs1 W hA hB h0 h1 hn0 hn1, fun W A c B d hA hB => implSsh x0 y0 x1 y1 A B c d zs0 zs1 W hA hB h0 h1 hn0 hn1⟩

/-- a sheet that came in, of words that fit -/
structure SheetW (w : World) (x y : Int) (A : Option Addr) (n : Nat) (zs : List Nat) : Prop where
  inn : SheetIn w x y A n zs
  all : AllW zs

set_option maxHeartbeats 16000000 in
set_option maxRecDepth 1000000 in
theorem lawSsh (x0 y0 : Int) (A0 : Option Addr) (n0 c0 : Nat) (zs0 : List Nat) (x1 y1 : Int) (A1 : Option Addr) (n1 c1 : Nat) (zs1 : List Nat) {w : World} (hl0 : SheetW w x0 y0 A0 n0 zs0) (hl1 : SheetW w x1 y1 A1 n1 zs1)  :
    Calls Try.prog 8 #[.agg #[.int .i64 x0, .int .i64 y0, .slice A0 n0 c0], .agg #[.int .i64 x1, .int .i64 y1, .slice A1 n1 c1]] w fun e w' => e = .returned (.bool true) ∧ Below w.heap.size w w' := by
  obtain ⟨⟨hrow0, hlen0, hN0, hwx0, hwy0⟩, hal0⟩ := hl0
  obtain ⟨⟨hrow1, hlen1, hN1, hwx1, hwy1⟩, hal1⟩ := hl1
  subst hlen0 hlen1
  by_cases hq0 : zs0.length ≤ 1048576
  rotate_left
  · have HB0 := Lib.hid ((((Below.refl w.heap.size w).alloc (Nat.le_refl _) _).alloc (by simp) _ : Below w.heap.size w ((w.alloc (.cells #[.int .i64 x0, .int .i64 y0, .slice A0 zs0.length c0] 24)).alloc (.cells #[.int .i64 x1, .int .i64 y1, .slice A1 zs1.length c1] 24))))
    have b1 : szN zs0.length 1048576 < 0 := by unfold szN; rw [if_neg hq0]; omega
    have HZ := Lib.hid (szSheet_is x0 y0 A0 zs0.length c0 1048576 (Nat.le_refl _) hN0 ((w.alloc (.cells #[.int .i64 x0, .int .i64 y0, .slice A0 zs0.length c0] 24)).alloc (.cells #[.int .i64 x1, .int .i64 y1, .slice A1 zs1.length c1] 24)))
    clear hrow0 hrow1
    generalize szN zs0.length 1048576 = r at *
    go_enter Try.func8, Try.ntmps8
    go_wp2_with fail
    refine HZ.out.mono ?_
    rintro e w' ⟨rfl, hb⟩
    have HB1 := Lib.hid (HB0.out.trans (hb.mono HB0.out.size))
    clear hb HZ HB0
    go_wp2_with fail
    go_ret
    exact ⟨rfl, HB1.out⟩
  by_cases hq1 : zs1.length ≤ (1048576 - zs0.length)
  rotate_left
  · have HB0 := Lib.hid ((((Below.refl w.heap.size w).alloc (Nat.le_refl _) _).alloc (by simp) _ : Below w.heap.size w ((w.alloc (.cells #[.int .i64 x0, .int .i64 y0, .slice A0 zs0.length c0] 24)).alloc (.cells #[.int .i64 x1, .int .i64 y1, .slice A1 zs1.length c1] 24))))
    have E0 : Hid (szN zs0.length 1048576 = ((1048576 - zs0.length : Nat) : Int)) := szN_eq hq0
    obtain ⟨l1, hl1⟩ : ∃ l, l = 1048576 - zs0.length := ⟨_, rfl⟩
    have b1 : ¬ (l1 : Int) < 0 := by omega
    rw [← hl1] at E0 hq1
    have b2 : szN zs1.length l1 < 0 := by unfold szN; rw [if_neg hq1]; omega
    have HZ := Lib.hid (szSheet_is x0 y0 A0 zs0.length c0 1048576 (Nat.le_refl _) hN0 ((w.alloc (.cells #[.int .i64 x0, .int .i64 y0, .slice A0 zs0.length c0] 24)).alloc (.cells #[.int .i64 x1, .int .i64 y1, .slice A1 zs1.length c1] 24)))
    have HY := Lib.hid (fun W => szSheet_is x1 y1 A1 zs1.length c1 l1 (by omega) hN1 W)
    have hV0 := (varT_new w x0 y0 A0 zs0.length c0 24)
    have hV1 := (by have h := ((varT_new (w.alloc (.cells #[.int .i64 x0, .int .i64 y0, .slice A0 zs0.length c0] 24)) x1 y1 A1 zs1.length c1 24) : VarT ((w.alloc (.cells #[.int .i64 x0, .int .i64 y0, .slice A0 zs0.length c0] 24)).alloc (.cells #[.int .i64 x1, .int .i64 y1, .slice A1 zs1.length c1] 24)) (w.alloc (.cells #[.int .i64 x0, .int .i64 y0, .slice A0 zs0.length c0] 24)).heap.size x1 y1 A1 zs1.length c1); rwa [show (w.alloc (.cells #[.int .i64 x0, .int .i64 y0, .slice A0 zs0.length c0] 24)).heap.size = w.heap.size + 1 by simp] at h : VarT ((w.alloc (.cells #[.int .i64 x0, .int .i64 y0, .slice A0 zs0.length c0] 24)).alloc (.cells #[.int .i64 x1, .int .i64 y1, .slice A1 zs1.length c1] 24)) (w.heap.size + 1) x1 y1 A1 zs1.length c1)
    clear hrow0 hrow1 hl1
    rw [E0.out] at HZ
    generalize szN zs1.length l1 = r at *
    go_enter Try.func8, Try.ntmps8
    go_wp2_with fail
    generalize ((w.alloc (.cells #[.int .i64 x0, .int .i64 y0, .slice A0 zs0.length c0] 24)).alloc (.cells #[.int .i64 x1, .int .i64 y1, .slice A1 zs1.length c1] 24)) = a0 at *
    refine HZ.out.mono ?_
    rintro e w' ⟨rfl, hb⟩
    have HB1 := Lib.hid (HB0.out.trans (hb.mono HB0.out.size))
    have hV2 := hV1.below hb
    have c0 := hV2.c0
    have c1 := hV2.c1
    have c2 := hV2.c2
    clear hb HZ HB0 hV0 hV1 hV2
    go_wp2_with fail
    refine (HY.out _).mono ?_
    rintro e w2 ⟨rfl, hb⟩
    have HB2 := Lib.hid (HB1.out.trans (hb.mono HB1.out.size))
    clear hb HY HB1 c0 c1 c2
    go_wp2_with fail
    go_ret
    exact ⟨rfl, HB2.out⟩
  have hn0 : zs0.length ≤ 1048576 := by omega
  have hn1 : zs1.length ≤ 1048576 := by omega
  obtain ⟨b, hS, hI⟩ := sshBoth x0 y0 zs0 x1 y1 zs1 hal0 hal1 hn0 hn1
  have HSP := Lib.hid hS
  have HIM := Lib.hid hI
  have R0_0 : Hid (RowF w w.heap.size A0 zs0) := hrow0
  have R1_0 : Hid (RowF w w.heap.size A1 zs1) := hrow1
  have C_0 : Hid (Below w.heap.size w w) := Below.refl _ _
  have E0 : Hid (szN zs0.length 1048576 = ((1048576 - zs0.length : Nat) : Int)) := szN_eq hq0
  obtain ⟨l1, hl1⟩ : ∃ l, l = 1048576 - zs0.length := ⟨_, rfl⟩
  have b1 : ¬ (l1 : Int) < 0 := by omega
  rw [← hl1] at E0 hq1
  have b2 : ¬ szN zs1.length l1 < 0 := by rw [szN_eq hq1]; omega
  have HZ := Lib.hid (szSheet_is x0 y0 A0 zs0.length c0 1048576 (Nat.le_refl _) hN0 ((w.alloc (.cells #[.int .i64 x0, .int .i64 y0, .slice A0 zs0.length c0] 24)).alloc (.cells #[.int .i64 x1, .int .i64 y1, .slice A1 zs1.length c1] 24)))
  have HY := Lib.hid (fun W => szSheet_is x1 y1 A1 zs1.length c1 l1 (by omega) hN1 W)
  rw [E0.out] at HZ
  have hb0 := (((Below.refl w.heap.size w).alloc (Nat.le_refl _) _).alloc (by simp) _ : Below w.heap.size w ((w.alloc (.cells #[.int .i64 x0, .int .i64 y0, .slice A0 zs0.length c0] 24)).alloc (.cells #[.int .i64 x1, .int .i64 y1, .slice A1 zs1.length c1] 24)))
  have R0_1 := Lib.hid (R0_0.out.below (hb0.mono C_0.out.size))
  have R1_1 := Lib.hid (R1_0.out.below (hb0.mono C_0.out.size))
  have C_1 := Lib.hid (C_0.out.trans (hb0.mono C_0.out.size))
  have Va0_1 := Lib.hid ((varT_new w x0 y0 A0 zs0.length c0 24).below (below_var _ x1 y1 A1 zs1.length c1 24))
  have Va1_1 := Lib.hid (by have h := ((varT_new (w.alloc (.cells #[.int .i64 x0, .int .i64 y0, .slice A0 zs0.length c0] 24)) x1 y1 A1 zs1.length c1 24) : VarT ((w.alloc (.cells #[.int .i64 x0, .int .i64 y0, .slice A0 zs0.length c0] 24)).alloc (.cells #[.int .i64 x1, .int .i64 y1, .slice A1 zs1.length c1] 24)) (w.alloc (.cells #[.int .i64 x0, .int .i64 y0, .slice A0 zs0.length c0] 24)).heap.size x1 y1 A1 zs1.length c1); rwa [show (w.alloc (.cells #[.int .i64 x0, .int .i64 y0, .slice A0 zs0.length c0] 24)).heap.size = w.heap.size + 1 by simp] at h : VarT ((w.alloc (.cells #[.int .i64 x0, .int .i64 y0, .slice A0 zs0.length c0] 24)).alloc (.cells #[.int .i64 x1, .int .i64 y1, .slice A1 zs1.length c1] 24)) (w.heap.size + 1) x1 y1 A1 zs1.length c1)
  have oa0 : w.heap.size + 1 < ((w.alloc (.cells #[.int .i64 x0, .int .i64 y0, .slice A0 zs0.length c0] 24)).alloc (.cells #[.int .i64 x1, .int .i64 y1, .slice A1 zs1.length c1] 24)).heap.size := Va1_1.out.lt
  clear hb0 R0_0 R1_0 C_0
  clear hS hI hl1 hrow0 hrow1
  generalize szN zs1.length l1 = r at *
  go_enter Try.func8, Try.ntmps8
  go_wp2_with fail
  generalize ((w.alloc (.cells #[.int .i64 x0, .int .i64 y0, .slice A0 zs0.length c0] 24)).alloc (.cells #[.int .i64 x1, .int .i64 y1, .slice A1 zs1.length c1] 24)) = a0 at *
  refine HZ.out.mono ?_
  rintro e wy ⟨rfl, hbz⟩
  clear HZ
  have R0_2 := Lib.hid (R0_1.out.below (hbz.mono C_1.out.size))
  have R1_2 := Lib.hid (R1_1.out.below (hbz.mono C_1.out.size))
  have C_2 := Lib.hid (C_1.out.trans (hbz.mono C_1.out.size))
  have Va0_2 := Lib.hid (Va0_1.out.below hbz)
  have Va1_2 := Lib.hid (Va1_1.out.below hbz)
  have oy := hbz.size
  clear hbz R0_1 R1_1 C_1 Va0_1 Va1_1
  have Va1c0 := Va1_2.out.c0
  have Va1c1 := Va1_2.out.c1
  have Va1c2 := Va1_2.out.c2
  have Va1lt := Va1_2.out.lt
  go_wp2_with fail
  clear Va1c0 Va1c1 Va1c2 Va1lt
  refine (HY.out wy).mono ?_
  rintro e wz ⟨rfl, hbz⟩
  clear HY
  have R0_3 := Lib.hid (R0_2.out.below (hbz.mono C_2.out.size))
  have R1_3 := Lib.hid (R1_2.out.below (hbz.mono C_2.out.size))
  have C_3 := Lib.hid (C_2.out.trans (hbz.mono C_2.out.size))
  have Va0_3 := Lib.hid (Va0_2.out.below hbz)
  have Va1_3 := Lib.hid (Va1_2.out.below hbz)
  have oz := hbz.size
  clear hbz R0_2 R1_2 C_2 Va0_2 Va1_2
  have Va0c0 := Va0_3.out.c0
  have Va0c1 := Va0_3.out.c1
  have Va0c2 := Va0_3.out.c2
  have Va0lt := Va0_3.out.lt
  have Va1c0 := Va1_3.out.c0
  have Va1c1 := Va1_3.out.c1
  have Va1c2 := Va1_3.out.c2
  have Va1lt := Va1_3.out.lt
  go_wp2_with fail
  have hR6_0 : Hid (RowF wz wz.heap.size A0 zs0) := R0_3.out.mono C_3.out.size
  have x6_0 : w.heap.size < wz.heap.size := Va0_3.out.lt
  have hR6_1 : Hid (RowF wz wz.heap.size A1 zs1) := R1_3.out.mono C_3.out.size
  have x6_1 : (w.heap.size + 1) < wz.heap.size := Va1_3.out.lt
  have K0 : Hid (Below wz.heap.size wz wz.drew) := (Below.refl _ _).drew
  go_region_held3 (fun w' => w'.cell? ⟨w.heap.size, 0, none⟩ = some (.int .i64 x0) ∧ w'.cell? ⟨w.heap.size, 1, none⟩ = some (.int .i64 y0) ∧ w'.cell? ⟨w.heap.size, 2, none⟩ = some (.slice A0 zs0.length c0) ∧ w'.cell? ⟨(w.heap.size + 1), 0, none⟩ = some (.int .i64 x1) ∧ w'.cell? ⟨(w.heap.size + 1), 1, none⟩ = some (.int .i64 y1) ∧ w'.cell? ⟨(w.heap.size + 1), 2, none⟩ = some (.slice A1 zs1.length c1) ∧ Hid (Below wz.heap.size wz w')) (first | (exact ⟨by assumption, by assumption, by assumption, by assumption, by assumption, by assumption, by assumption⟩) | go_keep)
    (first
      | ((go_at_call 13; (with_reducible refine (toSheetO x0 y0 A0 c0 zs0 _ (hR6_0.out.carry ((‹Hid (Below wz.heap.size wz _)›).out)) hn0).mono ?_); rintro e wt0 ⟨At0, ct0, rfl, Ot0, hbt0⟩; have Kt0 := Lib.hid ((‹Hid (Below wz.heap.size wz _)›).out.trans (hbt0.out.mono (‹Hid (Below wz.heap.size wz _)›).out.size)); obtain ⟨e00, e01, e02⟩ := keepT (v := w.heap.size) hbt0.out (by assumption) (by assumption) (by assumption) (by assumption) x6_0; obtain ⟨e10, e11, e12⟩ := keepT (v := (w.heap.size + 1)) hbt0.out (by assumption) (by assumption) (by assumption) (by assumption) x6_1; (try have Oc1 := Lib.hid ((‹Hid (RowIn _ _ _ At1 _)›).out.below hbt0.out))))
      | ((go_at_call 13; (with_reducible refine (toSheetO x1 y1 A1 c1 zs1 _ (hR6_1.out.carry ((‹Hid (Below wz.heap.size wz _)›).out)) hn1).mono ?_); rintro e wt1 ⟨At1, ct1, rfl, Ot1, hbt1⟩; have Kt1 := Lib.hid ((‹Hid (Below wz.heap.size wz _)›).out.trans (hbt1.out.mono (‹Hid (Below wz.heap.size wz _)›).out.size)); obtain ⟨e00, e01, e02⟩ := keepT (v := w.heap.size) hbt1.out (by assumption) (by assumption) (by assumption) (by assumption) x6_0; obtain ⟨e10, e11, e12⟩ := keepT (v := (w.heap.size + 1)) hbt1.out (by assumption) (by assumption) (by assumption) (by assumption) x6_1; (try have Oc0 := Lib.hid ((‹Hid (RowIn _ _ _ At0 _)›).out.below hbt1.out))))
      | ((go_at_call 27; refine (HSP.out _ _ _ _ _ (‹Hid (RowIn _ _ _ At0 _)›).out.toRow (‹Hid (RowIn _ _ _ At1 _)›).out.toRow).mono ?_; rintro e w8w ⟨rfl, hb8⟩; have K8 := Lib.hid ((‹Hid (Below wz.heap.size wz _)›).out.trans (hb8.out.mono (‹Hid (Below wz.heap.size wz _)›).out.size)); obtain ⟨g00, g01, g02⟩ := keepT (v := w.heap.size) hb8.out (by assumption) (by assumption) (by assumption) (by assumption) x6_0; obtain ⟨g10, g11, g12⟩ := keepT (v := (w.heap.size + 1)) hb8.out (by assumption) (by assumption) (by assumption) (by assumption) x6_1)))
  have hb9 := Lib.hid ((‹Hid (Below wz.heap.size wz w8w)›).out)
  clear Va0c0 Va0c1 Va0c2 Va0lt Va1c0 Va1c1 Va1c2 Va1lt K0 hR6_0 x6_0 hR6_1 x6_1
  have R0_4 := Lib.hid (R0_3.out.below (hb9.out.mono C_3.out.size))
  have R1_4 := Lib.hid (R1_3.out.below (hb9.out.mono C_3.out.size))
  have C_4 := Lib.hid (C_3.out.trans (hb9.out.mono C_3.out.size))
  have Va0_4 := Lib.hid (Va0_3.out.below hb9.out)
  have Va1_4 := Lib.hid (Va1_3.out.below hb9.out)
  have o8w := hb9.out.size
  clear hb9 R0_3 R1_3 C_3 Va0_3 Va1_3
  have Va0c0 := Va0_4.out.c0
  have Va0c1 := Va0_4.out.c1
  have Va0c2 := Va0_4.out.c2
  have Va0lt := Va0_4.out.lt
  go_wp2_with fail
  clear Va0c0 Va0c1 Va0c2 Va0lt
  refine (toSheetO x0 y0 A0 c0 zs0 w8w (R0_4.out.mono C_4.out.size) hn0).mono ?_
  rintro e w1 ⟨Bw1, dw1, rfl, Tw1, hbw1⟩
  have R0_5 := Lib.hid (R0_4.out.below (hbw1.out.mono C_4.out.size))
  have R1_5 := Lib.hid (R1_4.out.below (hbw1.out.mono C_4.out.size))
  have C_5 := Lib.hid (C_4.out.trans (hbw1.out.mono C_4.out.size))
  have Va0_5 := Lib.hid (Va0_4.out.below hbw1.out)
  have Va1_5 := Lib.hid (Va1_4.out.below hbw1.out)
  have X0_5 := Tw1
  have ow1 := hbw1.out.size
  clear Tw1 hbw1 R0_4 R1_4 C_4 Va0_4 Va1_4
  have Va1c0 := Va1_5.out.c0
  have Va1c1 := Va1_5.out.c1
  have Va1c2 := Va1_5.out.c2
  have Va1lt := Va1_5.out.lt
  have hbA := below_var w1 x0 y0 Bw1 zs0.length dw1 27
  have R0_6 := Lib.hid (R0_5.out.below (hbA.mono C_5.out.size))
  have R1_6 := Lib.hid (R1_5.out.below (hbA.mono C_5.out.size))
  have C_6 := Lib.hid (C_5.out.trans (hbA.mono C_5.out.size))
  have Va0_6 := Lib.hid (Va0_5.out.below hbA)
  have Va1_6 := Lib.hid (Va1_5.out.below hbA)
  have X0_6 := Lib.hid (X0_5.out.below hbA)
  have Vx0_6 := Lib.hid (varT_new w1 x0 y0 Bw1 zs0.length dw1 27)
  have ow2 : w1.heap.size < (w1.alloc (.cells #[.int .i64 x0, .int .i64 y0, .slice Bw1 zs0.length dw1] 27)).heap.size := Vx0_6.out.lt
  clear hbA R0_5 R1_5 C_5 Va0_5 Va1_5 X0_5
  go_wp2_with fail
  clear Va1c0 Va1c1 Va1c2 Va1lt
  generalize w1.alloc (.cells #[.int .i64 x0, .int .i64 y0, .slice Bw1 zs0.length dw1] 27) = w2 at *
  refine (toSheetO x1 y1 A1 c1 zs1 w2 (R1_6.out.mono C_6.out.size) hn1).mono ?_
  rintro e w3 ⟨Bw3, dw3, rfl, Tw3, hbw3⟩
  have R0_7 := Lib.hid (R0_6.out.below (hbw3.out.mono C_6.out.size))
  have R1_7 := Lib.hid (R1_6.out.below (hbw3.out.mono C_6.out.size))
  have C_7 := Lib.hid (C_6.out.trans (hbw3.out.mono C_6.out.size))
  have Va0_7 := Lib.hid (Va0_6.out.below hbw3.out)
  have Va1_7 := Lib.hid (Va1_6.out.below hbw3.out)
  have X0_7 := Lib.hid (X0_6.out.below hbw3.out)
  have Vx0_7 := Lib.hid (Vx0_6.out.below hbw3.out)
  have X1_7 := Tw3
  have ow3 := hbw3.out.size
  clear Tw3 hbw3 R0_6 R1_6 C_6 Va0_6 Va1_6 X0_6 Vx0_6
  have Vx0c0 := Vx0_7.out.c0
  have Vx0c1 := Vx0_7.out.c1
  have Vx0c2 := Vx0_7.out.c2
  have Vx0lt := Vx0_7.out.lt
  have hbA := below_var w3 x1 y1 Bw3 zs1.length dw3 27
  have R0_8 := Lib.hid (R0_7.out.below (hbA.mono C_7.out.size))
  have R1_8 := Lib.hid (R1_7.out.below (hbA.mono C_7.out.size))
  have C_8 := Lib.hid (C_7.out.trans (hbA.mono C_7.out.size))
  have Va0_8 := Lib.hid (Va0_7.out.below hbA)
  have Va1_8 := Lib.hid (Va1_7.out.below hbA)
  have X0_8 := Lib.hid (X0_7.out.below hbA)
  have Vx0_8 := Lib.hid (Vx0_7.out.below hbA)
  have X1_8 := Lib.hid (X1_7.out.below hbA)
  have Vx1_8 := Lib.hid (varT_new w3 x1 y1 Bw3 zs1.length dw3 27)
  have ow4 : w3.heap.size < (w3.alloc (.cells #[.int .i64 x1, .int .i64 y1, .slice Bw3 zs1.length dw3] 27)).heap.size := Vx1_8.out.lt
  clear hbA R0_7 R1_7 C_7 Va0_7 Va1_7 X0_7 Vx0_7 X1_7
  go_wp2_with fail
  clear Vx0c0 Vx0c1 Vx0c2 Vx0lt
  generalize w3.alloc (.cells #[.int .i64 x1, .int .i64 y1, .slice Bw3 zs1.length dw3] 27) = w4 at *
  refine (HIM.out w4 _ _ _ _ X0_8.out.toRow X1_8.out.toRow).mono ?_
  rintro e w5 ⟨rfl, hbw5⟩
  have R0_9 := Lib.hid (R0_8.out.below (hbw5.out.mono C_8.out.size))
  have R1_9 := Lib.hid (R1_8.out.below (hbw5.out.mono C_8.out.size))
  have C_9 := Lib.hid (C_8.out.trans (hbw5.out.mono C_8.out.size))
  have Va0_9 := Lib.hid (Va0_8.out.below hbw5.out)
  have Va1_9 := Lib.hid (Va1_8.out.below hbw5.out)
  have X0_9 := Lib.hid (X0_8.out.below hbw5.out)
  have Vx0_9 := Lib.hid (Vx0_8.out.below hbw5.out)
  have X1_9 := Lib.hid (X1_8.out.below hbw5.out)
  have Vx1_9 := Lib.hid (Vx1_8.out.below hbw5.out)
  have ow5 := hbw5.out.size
  clear hbw5 R0_8 R1_8 C_8 Va0_8 Va1_8 X0_8 Vx0_8 X1_8 Vx1_8
  -- the copy is as it was
  have Vx0c0 := Vx0_9.out.c0
  have Vx0c1 := Vx0_9.out.c1
  have Vx0c2 := Vx0_9.out.c2
  have Vx0lt := Vx0_9.out.lt
  have Va0c0 := Va0_9.out.c0
  have Va0c1 := Va0_9.out.c1
  have Va0c2 := Va0_9.out.c2
  have Va0lt := Va0_9.out.lt
  go_wp2_with fail
  have hR6 : Hid (RowF w5 w5.heap.size A0 zs0) := R0_9.out.mono C_9.out.size
  have hX6 := X0_9
  have x6 : w.heap.size < w5.heap.size := Va0_9.out.lt
  have y6 : w1.heap.size < w5.heap.size := Vx0_9.out.lt
  have K0 : Hid (Below w5.heap.size w5 w5.drew) := (Below.refl _ _).drew
  go_region_held3 (fun w' => w'.cell? ⟨w1.heap.size, 0, none⟩ = some (.int .i64 x0) ∧ w'.cell? ⟨w1.heap.size, 1, none⟩ = some (.int .i64 y0) ∧ w'.cell? ⟨w1.heap.size, 2, none⟩ = some (.slice Bw1 zs0.length dw1) ∧ w'.cell? ⟨w.heap.size, 0, none⟩ = some (.int .i64 x0) ∧ w'.cell? ⟨w.heap.size, 1, none⟩ = some (.int .i64 y0) ∧ w'.cell? ⟨w.heap.size, 2, none⟩ = some (.slice A0 zs0.length c0) ∧ Hid (Below w5.heap.size w5 w')) (first | (exact ⟨by assumption, by assumption, by assumption, by assumption, by assumption, by assumption, by assumption⟩) | go_keep)
    (first
      | ((go_at_call 13; refine (toSheetO x0 y0 A0 c0 zs0 _ (hR6.out.carry ((‹Hid (Below w5.heap.size w5 _)›).out)) hn0).mono ?_; rintro e w7 ⟨A7, c7, rfl, O7, hb7⟩; have K7 := Lib.hid ((‹Hid (Below w5.heap.size w5 _)›).out.trans (hb7.out.mono (‹Hid (Below w5.heap.size w5 _)›).out.size)); obtain ⟨e0, e1, e2⟩ := keepT (v := w.heap.size) hb7.out (by assumption) (by assumption) (by assumption) (by assumption) x6; obtain ⟨f0, f1, f2⟩ := keepT (v := w1.heap.size) hb7.out (by assumption) (by assumption) (by assumption) (by assumption) y6))
      | ((go_at_call 15; refine (eqT x0 y0 _ _ _ _ _ _ _ _ zs0 _ (hX6.out.below ((‹Hid (Below w5.heap.size w5 _)›).out)) (‹Hid (RowIn _ _ _ A7 _)›).out hn0).mono ?_; rintro e w8x0 ⟨rfl, hb8⟩; have K8 := Lib.hid ((‹Hid (Below w5.heap.size w5 _)›).out.trans (hb8.out.mono (‹Hid (Below w5.heap.size w5 _)›).out.size)); obtain ⟨e0, e1, e2⟩ := keepT (v := w.heap.size) hb8.out (by assumption) (by assumption) (by assumption) (by assumption) x6; obtain ⟨f0, f1, f2⟩ := keepT (v := w1.heap.size) hb8.out (by assumption) (by assumption) (by assumption) (by assumption) y6)))
  have hb9 := Lib.hid ((‹Hid (Below w5.heap.size w5 w8x0)›).out)
  clear Vx0c0 Vx0c1 Vx0c2 Vx0lt Va0c0 Va0c1 Va0c2 Va0lt hR6 hX6 x6 y6 K0
  have R0_10 := Lib.hid (R0_9.out.below (hb9.out.mono C_9.out.size))
  have R1_10 := Lib.hid (R1_9.out.below (hb9.out.mono C_9.out.size))
  have C_10 := Lib.hid (C_9.out.trans (hb9.out.mono C_9.out.size))
  have Va0_10 := Lib.hid (Va0_9.out.below hb9.out)
  have Va1_10 := Lib.hid (Va1_9.out.below hb9.out)
  have X0_10 := Lib.hid (X0_9.out.below hb9.out)
  have Vx0_10 := Lib.hid (Vx0_9.out.below hb9.out)
  have X1_10 := Lib.hid (X1_9.out.below hb9.out)
  have Vx1_10 := Lib.hid (Vx1_9.out.below hb9.out)
  have ow6 := hb9.out.size
  clear hb9 R0_9 R1_9 C_9 Va0_9 Va1_9 X0_9 Vx0_9 X1_9 Vx1_9
  -- the copy is as it was
  have Vx1c0 := Vx1_10.out.c0
  have Vx1c1 := Vx1_10.out.c1
  have Vx1c2 := Vx1_10.out.c2
  have Vx1lt := Vx1_10.out.lt
  have Va1c0 := Va1_10.out.c0
  have Va1c1 := Va1_10.out.c1
  have Va1c2 := Va1_10.out.c2
  have Va1lt := Va1_10.out.lt
  go_wp2_with fail
  have hR6 : Hid (RowF w8x0 w8x0.heap.size A1 zs1) := R1_10.out.mono C_10.out.size
  have hX6 := X1_10
  have x6 : (w.heap.size + 1) < w8x0.heap.size := Va1_10.out.lt
  have y6 : w3.heap.size < w8x0.heap.size := Vx1_10.out.lt
  have K0 : Hid (Below w8x0.heap.size w8x0 w8x0.drew) := (Below.refl _ _).drew
  go_region_held3 (fun w' => w'.cell? ⟨w3.heap.size, 0, none⟩ = some (.int .i64 x1) ∧ w'.cell? ⟨w3.heap.size, 1, none⟩ = some (.int .i64 y1) ∧ w'.cell? ⟨w3.heap.size, 2, none⟩ = some (.slice Bw3 zs1.length dw3) ∧ w'.cell? ⟨(w.heap.size + 1), 0, none⟩ = some (.int .i64 x1) ∧ w'.cell? ⟨(w.heap.size + 1), 1, none⟩ = some (.int .i64 y1) ∧ w'.cell? ⟨(w.heap.size + 1), 2, none⟩ = some (.slice A1 zs1.length c1) ∧ Hid (Below w8x0.heap.size w8x0 w')) (first | (exact ⟨by assumption, by assumption, by assumption, by assumption, by assumption, by assumption, by assumption⟩) | go_keep)
    (first
      | ((go_at_call 13; refine (toSheetO x1 y1 A1 c1 zs1 _ (hR6.out.carry ((‹Hid (Below w8x0.heap.size w8x0 _)›).out)) hn1).mono ?_; rintro e w7 ⟨A7, c7, rfl, O7, hb7⟩; have K7 := Lib.hid ((‹Hid (Below w8x0.heap.size w8x0 _)›).out.trans (hb7.out.mono (‹Hid (Below w8x0.heap.size w8x0 _)›).out.size)); obtain ⟨e0, e1, e2⟩ := keepT (v := (w.heap.size + 1)) hb7.out (by assumption) (by assumption) (by assumption) (by assumption) x6; obtain ⟨f0, f1, f2⟩ := keepT (v := w3.heap.size) hb7.out (by assumption) (by assumption) (by assumption) (by assumption) y6))
      | ((go_at_call 15; refine (eqT x1 y1 _ _ _ _ _ _ _ _ zs1 _ (hX6.out.below ((‹Hid (Below w8x0.heap.size w8x0 _)›).out)) (‹Hid (RowIn _ _ _ A7 _)›).out hn1).mono ?_; rintro e w8x1 ⟨rfl, hb8⟩; have K8 := Lib.hid ((‹Hid (Below w8x0.heap.size w8x0 _)›).out.trans (hb8.out.mono (‹Hid (Below w8x0.heap.size w8x0 _)›).out.size)); obtain ⟨e0, e1, e2⟩ := keepT (v := (w.heap.size + 1)) hb8.out (by assumption) (by assumption) (by assumption) (by assumption) x6; obtain ⟨f0, f1, f2⟩ := keepT (v := w3.heap.size) hb8.out (by assumption) (by assumption) (by assumption) (by assumption) y6)))
  have hb9 := Lib.hid ((‹Hid (Below w8x0.heap.size w8x0 w8x1)›).out)
  clear Vx1c0 Vx1c1 Vx1c2 Vx1lt Va1c0 Va1c1 Va1c2 Va1lt hR6 hX6 x6 y6 K0
  have R0_11 := Lib.hid (R0_10.out.below (hb9.out.mono C_10.out.size))
  have R1_11 := Lib.hid (R1_10.out.below (hb9.out.mono C_10.out.size))
  have C_11 := Lib.hid (C_10.out.trans (hb9.out.mono C_10.out.size))
  have Va0_11 := Lib.hid (Va0_10.out.below hb9.out)
  have Va1_11 := Lib.hid (Va1_10.out.below hb9.out)
  have X0_11 := Lib.hid (X0_10.out.below hb9.out)
  have Vx0_11 := Lib.hid (Vx0_10.out.below hb9.out)
  have X1_11 := Lib.hid (X1_10.out.below hb9.out)
  have Vx1_11 := Lib.hid (Vx1_10.out.below hb9.out)
  have ow7 := hb9.out.size
  clear hb9 R0_10 R1_10 C_10 Va0_10 Va1_10 X0_10 Vx0_10 X1_10 Vx1_10
  go_wp2_with fail
  go_ret
  exact ⟨rfl, C_11.out⟩

theorem open_floats_ww {H : Type} {enc : TypeId × Value → H} {P : Program} {w : World} {spare : Nat → Bool} {held : Bool} {t e : TypeId} {A : Option Addr} {len cap : Nat} {d : DataW H} {ps : List MemPlace} (ht : P.underlying t = some (.slice e)) (he : P.underlying e = some (.float .f32)) (hc : P.cellsOf e = 1)
    (h : DataW.Trod enc P w 0 spare held t (.slice A len cap) d ps) : ∃ zs, ListF w A len zs ∧ AllW zs := by
  obtain ⟨zs, hl⟩ := open_floats ht he hc h
  refine ⟨zs, hl, fun z hz => ?_⟩
  obtain ⟨fuel, hf⟩ := h
  obtain ⟨j, hj, rfl⟩ := List.getElem_of_mem hz
  have hrow := hl.row (by omega)
  obtain ⟨b, off, rfl, hb, hcell⟩ := hrow
  rcases Go.Deep.open_slice1 ht hc hf with ⟨hcs, _⟩ | ⟨a, l, c, m, n, V, D, Pl, hcs, _, hl2, hm, hmm, _, hx⟩
  · simp [Value.cells] at hcs
  · simp [Value.cells] at hcs
    obtain ⟨rfl, rfl, rfl⟩ := hcs
    have hlen := hl.size
    obtain ⟨h1, h2⟩ := hx j (by rw [hmm]; split <;> omega)
    have hcj := hcell j hj
    rw [Go.WideShapes.add_plain] at h1
    rw [hcj] at h1
    injection h1 with h1
    rw [← h1] at h2
    have hat : at0 zs j = zs[j] := by simp [at0, List.getD, hj]
    rw [hat] at h2
    cases n with
    | zero => cases h2
    | succ n =>
      simp only [DataW.trod, he] at h2
      split at h2
      · rename_i hw
        exact wf32 hw.2
      · cases h2

set_option maxRecDepth 1000000 in
theorem open_sheet_w {H : Type} {enc : TypeId × Value → H} {w : World} {spare : Nat → Bool} {held : Bool} {r : Reach} {b0 : Nat} {v : Value} {d : DataW H} {p : List MemPlace}
    (hv : Value.okWide Try.prog w r b0 24 v) (h : DataW.Trod enc Try.prog w 0 spare held 24 v d p) :
    ∃ x y A n c zs, v = .agg #[.int .i64 x, .int .i64 y, .slice A n c] ∧ SheetW w x y A n zs := by
  obtain ⟨v0, v1, v2, y0, y1, y2, k, rfl, _, _, t0, t1, t2⟩ := Go.Joins.open_agg3 Try.underlying24 (by kernel_rfl) (by kernel_rfl) hv h
  obtain ⟨x, hx, _, wx⟩ := DataW.trod_int Try.underlying2 t0
  obtain ⟨y, hy, _, wy⟩ := DataW.trod_int Try.underlying2 t1
  simp only [List.cons.injEq, and_true] at hx hy
  subst hx hy
  have hs : ∃ A n c, v2 = .slice A n c := by
    rcases Go.Deep.open_slice1 Try.underlying22 (by kernel_rfl) t2 with ⟨hcs, _⟩ | ⟨a, l, c, m, n, V, D, Pl, hcs, _⟩
    · simp only [List.cons.injEq, and_true] at hcs
      exact ⟨_, _, _, hcs⟩
    · simp only [List.cons.injEq, and_true] at hcs
      exact ⟨_, _, _, hcs⟩
  obtain ⟨A, n, c, rfl⟩ := hs
  obtain ⟨zs, ⟨hsz, hrow, hsm⟩, hall⟩ := open_floats_ww Try.underlying22 Try.underlying25 (by kernel_rfl) ⟨k, t2⟩
  exact ⟨x, y, A, n, c, zs, rfl, ⟨hrow, hsz, by unfold maxLen at hsm; omega, wx, wy⟩, hall⟩

end Go.Proofs.Ytckhdbnoihieeaa
