/-
  What is proved here: the law FnExactIslandsOver, as a walk. Conditions: the sheet is one that a machine can hold.
-/
import Derived.Test.YtgiblioilpedfaaIls
import Derived.Test.YtgiblioilpedfaaOpenT
import Derived.Test.YtgiblioilpedfaaLsk
import Derived.Deep.RegionHeld3
namespace Go.Proofs.Ytgiblioilpedfaa
open Flt Go.RowKit

set_option maxHeartbeats 8000000 in
set_option maxRecDepth 1000000 in
theorem lawIsl (x y : Int) (A : Option Addr) (n c : Nat) (zs : List Nat) (lv : Nat) {w : World} (G : SheetIn w x y A n zs) :
    Calls Try.prog 3 #[.agg #[.int .i64 x, .int .i64 y, .slice A n c], .float .f32 lv] w fun e w' => e = .returned (.bool true) ∧ Below w.heap.size w w' := by
  obtain ⟨hr, hsz, hN, hwx, hwy⟩ := G
  subst hsz
  have B0 : Below w.heap.size w (w.alloc (.cells #[.int .i64 x, .int .i64 y, .slice A zs.length c] 24)) := (Below.refl _ _).alloc (Nat.le_refl _) _
  have HV := Lib.hid (varT_new w x y A zs.length c 24)
  have HZ := Lib.hid (szSheet_is x y A zs.length c 1048576 (Nat.le_refl _) hN (w.alloc (.cells #[.int .i64 x, .int .i64 y, .slice A zs.length c] 24)))
  have HS0 : Hid (0 ≤ szN zs.length 1048576 → zs.length ≤ 1048576) := fun h => szN_lt (by omega)
  have HR := Lib.hid hr
  have HB := Lib.hid B0
  have HX : Hid (w.heap.size < (w.alloc (.cells #[.int .i64 x, .int .i64 y, .slice A zs.length c] 24)).heap.size) := by show _ < _; simp
  obtain ⟨n1, n2, bb, HSP0, HIM0⟩ := islBoth x y lv zs
  have HSP := Lib.hid HSP0
  have HIM := Lib.hid HIM0
  clear HSP0 HIM0
  clear hr B0 hN
  generalize szN zs.length 1048576 = r at *
  go_enter Try.func3, Try.ntmps3
  go_wp2_with fail
  generalize w.alloc (.cells #[.int .i64 x, .int .i64 y, .slice A zs.length c] 24) = a0 at *
  generalize hX : w.heap.size = X at *
  have HXX := Lib.hid hX
  clear hX
  refine HZ.out.mono ?_
  rintro e w1 ⟨rfl, hb⟩
  have B1 : Hid (Below X w w1) := HB.out.trans (hb.mono (Nat.le_of_lt HX.out))
  have V1 := Lib.hid (HV.out.below hb)
  have x1 : Hid (X < w1.heap.size) := V1.out.lt
  clear hb HZ HB HV HX
  by_cases hr0 : r < 0
  · go_wp2_with fail
    go_ret
    exact ⟨rfl, by rw [HXX.out]; exact B1.out⟩
  have hr1 : 0 ≤ r := by omega
  have hn := HS0.out hr1
  clear hr0 HS0
  have c0 := V1.out.c0
  have c1 := V1.out.c1
  have c2 := V1.out.c2
  have hR1 : RowF w1 w1.heap.size A zs := (HR.out.below B1.out).mono (Nat.le_of_lt x1.out)
  have H1 := Lib.hid (toSheet_is x y A c zs w1 hR1 hn)
  clear hR1
  go_wp2_with fail
  -- what the model answers
  refine H1.out.mono ?_
  rintro e w2 ⟨g2, rfl, _, O2, hb2⟩
  have B2 : Hid (Below X w w2) := B1.out.trans (hb2.out.mono (Nat.le_of_lt x1.out))
  have V2 := Lib.hid (V1.out.below hb2.out)
  have x2 : Hid (X < w2.heap.size) := V2.out.lt
  clear H1 c0 c1 c2 V1 B1 x1 hb2
  go_wp2_with fail
  refine (HSP.out w2 (some ⟨g2, 0, none⟩) zs.length hn O2.out).mono ?_
  rintro e w3 ⟨rfl, hb3⟩
  have B3 : Hid (Below X w w3) := B2.out.trans (hb3.out.mono (Nat.le_of_lt x2.out))
  have V3 := Lib.hid (V2.out.below hb3.out)
  have x3 : Hid (X < w3.heap.size) := V3.out.lt
  clear hb3 B2 V2 x2 O2
  have c0 := V3.out.c0
  have c1 := V3.out.c1
  have c2 := V3.out.c2
  have hR3 : RowF w3 w3.heap.size A zs := (HR.out.below B3.out).mono (Nat.le_of_lt x3.out)
  have H3 := Lib.hid (toSheet_is x y A c zs w3 hR3 hn)
  clear hR3
  go_wp2_with fail
  -- the copy that the program gets
  refine H3.out.mono ?_
  rintro e w4 ⟨g4, rfl, _, O4, hb4⟩
  have B4 : Hid (Below X w w4) := B3.out.trans (hb4.out.mono (Nat.le_of_lt x3.out))
  have V4 := Lib.hid (V3.out.below hb4.out)
  have x4 : Hid (X < w4.heap.size) := V4.out.lt
  clear H3 c0 c1 c2 V3 B3 x3 hb4
  have hb5 : Below w4.heap.size w4 (w4.alloc (.cells #[.int .i64 x, .int .i64 y, .slice (some ⟨g4, 0, none⟩) zs.length zs.length] 29)) := (Below.refl _ _).alloc (Nat.le_refl _) _
  have U5 := Lib.hid (varT_new w4 x y (some ⟨g4, 0, none⟩) zs.length zs.length 29)
  have O5 := Lib.hid (O4.out.carry hb5)
  have B5 := Lib.hid (B4.out.trans (hb5.mono (Nat.le_of_lt x4.out)))
  have V5 := Lib.hid (V4.out.below hb5)
  have x5 : Hid (X < w4.heap.size) := x4
  clear hb5 O4 B4 V4 x4
  go_wp2_with fail
  generalize w4.alloc (.cells #[.int .i64 x, .int .i64 y, .slice (some ⟨g4, 0, none⟩) zs.length zs.length] 29) = a5 at *
  generalize w4.heap.size = y5 at *
  refine (HIM.out a5 (some ⟨g4, 0, none⟩) zs.length hn O5.out).mono ?_
  rintro e w6 ⟨rfl, hb6⟩
  have y6 : y5 < w6.heap.size := (U5.out.below hb6.out).lt
  have U6 := Lib.hid (U5.out.below hb6.out)
  have O6 := Lib.hid (O5.out.carry hb6.out)
  have V6 := Lib.hid (V5.out.below hb6.out)
  have x6 : X < w6.heap.size := V6.out.lt
  have B6 : Hid (Below X w w6) := B5.out.trans (hb6.out.mono (Nat.le_of_lt V5.out.lt))
  clear hb6 U5 O5 V5 B5 x5
  -- the copy is as it was
  have c0 := V6.out.c0
  have c1 := V6.out.c1
  have c2 := V6.out.c2
  have d0 := U6.out.c0
  have d1 := U6.out.c1
  have d2 := U6.out.c2
  have hR6 : Hid (RowF w6 w6.heap.size A zs) := (HR.out.below B6.out).mono (Nat.le_of_lt x6)
  have K0 : Hid (Below w6.heap.size w6 w6.drew) := (Below.refl _ _).drew
  clear V6 U6
  go_wp2_with fail
  go_region_held3 (fun w' => w'.cell? ⟨y5, 0, none⟩ = some (.int .i64 x) ∧ w'.cell? ⟨y5, 1, none⟩ = some (.int .i64 y) ∧ w'.cell? ⟨y5, 2, none⟩ = some (.slice (some ⟨g4, 0, none⟩) zs.length zs.length) ∧ w'.cell? ⟨X, 0, none⟩ = some (.int .i64 x) ∧ w'.cell? ⟨X, 1, none⟩ = some (.int .i64 y) ∧ w'.cell? ⟨X, 2, none⟩ = some (.slice A zs.length c) ∧ Hid (Below w6.heap.size w6 w')) (first | (exact ⟨by assumption, by assumption, by assumption, by assumption, by assumption, by assumption, by assumption⟩) | go_keep)
    (first
      | ((go_at_call 17; refine (toSheet_is x y A c zs _ (hR6.out.carry ((‹Hid (Below w6.heap.size w6 _)›).out)) hn).mono ?_; rintro e w7 ⟨g7, rfl, _, O7, hb7⟩; have K7 := Lib.hid ((‹Hid (Below w6.heap.size w6 _)›).out.trans (hb7.out.mono (‹Hid (Below w6.heap.size w6 _)›).out.size)); obtain ⟨e0, e1, e2⟩ := keepT (v := X) hb7.out (by assumption) (by assumption) (by assumption) (by assumption) x6; obtain ⟨f0, f1, f2⟩ := keepT (v := y5) hb7.out (by assumption) (by assumption) (by assumption) (by assumption) y6))
      | ((go_at_call 19; refine (eqSheet_is x y _ _ _ _ zs _ _ (Nat.le_refl _) (O6.out.carry (‹Hid (Below w6.heap.size w6 _)›).out) (‹Hid (RowF _ _ _ zs)›).out hn).mono ?_; rintro e w8 ⟨rfl, hb8⟩; have K8 := Lib.hid ((‹Hid (Below w6.heap.size w6 _)›).out.trans (hb8.out.mono (‹Hid (Below w6.heap.size w6 _)›).out.size)); obtain ⟨e0, e1, e2⟩ := keepT (v := X) hb8.out (by assumption) (by assumption) (by assumption) (by assumption) x6; obtain ⟨f0, f1, f2⟩ := keepT (v := y5) hb8.out (by assumption) (by assumption) (by assumption) (by assumption) y6)))
  have HE := Lib.hid (B6.out.trans ((‹Hid (Below w6.heap.size w6 w8)›).out.mono (Nat.le_of_lt x6)))
  go_wp2_with fail
  go_ret
  exact ⟨rfl, by rw [HXX.out]; exact HE.out⟩

end Go.Proofs.Ytgiblioilpedfaa
