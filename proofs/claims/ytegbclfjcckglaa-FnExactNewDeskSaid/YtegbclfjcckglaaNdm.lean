/-
  What is proved here: comparison, marks and looks of desks like the new one, and the law NewDesk, as walks. Conditions: none.
-/
import Derived.Test.YtegbclfjcckglaaNdl
namespace Go.Proofs.Ytegbclfjcckglaa
open Flt Go.RowKit
attribute [local go_sem] run_store_complex run_store_float

set_option maxHeartbeats 2000000 in
theorem eqDesk_is (g p h q : Nat) (w : World) (Z : Nat) (hZ : Z ≤ w.heap.size) (r1 : RowS w Z (some ⟨g, 0, none⟩) dragonL) (r2 : RowS w Z (some ⟨h, 0, none⟩) dragonL) (r3 : RowC w Z (some ⟨p, 0, none⟩) ptsL) (r4 : RowC w Z (some ⟨q, 0, none⟩) ptsL) :
    Calls Try.prog 7 #[dV g p, dV h q] w fun e w' => e = .returned (.bool true) ∧ Hid (Below w.heap.size w w') := by
  have R1 := Lib.hid r1
  have R2 := Lib.hid r2
  have R3 := Lib.hid r3
  have R4 := Lib.hid r4
  have HZ := Lib.hid hZ
  have V1 := Lib.hid ((deskAt_new w g p 33).below (w' := (w.alloc (.cells (dA g p) 33)).alloc (.cells (dA h q) 33)) ((Below.refl _ _).alloc (Nat.le_refl _) _))
  have V2 := Lib.hid (deskAt_new (w.alloc (.cells (dA g p) 33)) h q 33)
  have B0 : Hid (Below w.heap.size w ((w.alloc (.cells (dA g p) 33)).alloc (.cells (dA h q) 33))) := ((Below.refl _ _).alloc (Nat.le_refl _) _).alloc (by simp) _
  have e1 : (w.alloc (.cells (dA g p) 33)).heap.size = w.heap.size + 1 := by simp
  rw [e1] at V2
  clear r1 r2 r3 r4 hZ e1
  unfold dV
  have hl : Hid (dragonL.length = 2 * 2) := rfl
  go_enter Try.func7, Try.ntmps7
  unfold dA at V1 V2 B0
  go_wp2_with fail
  refine (eqMap_is _ _ _ _).mono ?_
  rintro e w1 ⟨rfl, b1⟩
  have V1a : DeskAt w1 w.heap.size g p := V1.out.below b1
  have V2a : DeskAt w1 (w.heap.size + 1) h q := V2.out.below b1
  have B1 : Hid (Below w.heap.size w w1) := B0.out.trans (b1.mono B0.out.size)
  clear b1 V1 V2 B0
  have V1 := Lib.hid V1a
  have V2 := Lib.hid V2a
  obtain ⟨c0, c1, c2, c3, c4, c5, c6, c7, c8⟩ := V1a.nine
  obtain ⟨d0, d1, d2, d3, d4, d5, d6, d7, d8⟩ := V2a.nine
  clear V1a V2a
  go_wp2_with fail
  refine (eqView_is _ _ _ _ _ _).mono ?_
  rintro e w2 ⟨rfl, b2⟩
  have V1a : DeskAt w2 w.heap.size g p := V1.out.below b2
  have V2a : DeskAt w2 (w.heap.size + 1) h q := V2.out.below b2
  have B2 : Hid (Below w.heap.size w w2) := B1.out.trans (b2.mono B1.out.size)
  clear b2 V1 V2 B1 c0 c1 c2 c3 c4 c5 c6 c7 c8 d0 d1 d2 d3 d4 d5 d6 d7 d8
  have V1 := Lib.hid V1a
  have V2 := Lib.hid V2a
  obtain ⟨c0, c1, c2, c3, c4, c5, c6, c7, c8⟩ := V1a.nine
  obtain ⟨d0, d1, d2, d3, d4, d5, d6, d7, d8⟩ := V2a.nine
  clear V1a V2a
  go_wp2_with fail
  refine (eqGrammar_is ⟨#[70, 88]⟩ _ _ 2 _ _ dragonL w2 Z (Nat.le_trans HZ.out B2.out.size) (R1.out.below (B2.out.mono HZ.out)) (R2.out.below (B2.out.mono HZ.out)) hl.out (by decide)).mono ?_
  rintro e w3 ⟨rfl, b3⟩
  have V1a : DeskAt w3 w.heap.size g p := V1.out.below b3.out
  have V2a : DeskAt w3 (w.heap.size + 1) h q := V2.out.below b3.out
  have B3 : Hid (Below w.heap.size w w3) := B2.out.trans (b3.out.mono B2.out.size)
  clear b3 V1 V2 B2 c0 c1 c2 c3 c4 c5 c6 c7 c8 d0 d1 d2 d3 d4 d5 d6 d7 d8
  obtain ⟨c0, c1, c2, c3, c4, c5, c6, c7, c8⟩ := V1a.nine
  obtain ⟨d0, d1, d2, d3, d4, d5, d6, d7, d8⟩ := V2a.nine
  clear V1a V2a
  go_wp2_with fail
  refine (eqC (some ⟨p, 0, none⟩) (some ⟨q, 0, none⟩) 2 2 ptsL w3 Z (R3.out.below (B3.out.mono HZ.out)) (R4.out.below (B3.out.mono HZ.out)) (by decide)).mono ?_
  rintro e w4 ⟨rfl, n, rfl⟩
  have B4 : Hid (Below w.heap.size w (w3.drewN n)) := B3.out.trans ⟨rfl, rfl, rfl, Nat.le_refl _, fun _ _ => rfl⟩
  go_wp2_with fail
  go_ret
  exact ⟨rfl, B4⟩

/-- only two blocks have changed, and what is new -/
structure But2 (g p : Nat) (w w' : World) : Prop where
  below : Below g w w'
  block : ∀ k, k < w.heap.size → k ≠ g → k ≠ p → w'.heap[k]? = w.heap[k]?

set_option maxHeartbeats 2000000 in
theorem markDesk_is (g p : Nat) (w : World) (hgp : g < p) (hp : p < w.heap.size) (o1 : OwnS w g (some ⟨g, 0, none⟩) dragonL) (o2 : OwnC w p (some ⟨p, 0, none⟩) ptsL) :
    Calls Try.prog 8 #[dV g p, .int .i64 1] w fun e w' => e = .returned (.int .i64 7) ∧ Hid (OwnS w' g (some ⟨g, 0, none⟩) (upS 1 4)) ∧ Hid (OwnC w' p (some ⟨p, 0, none⟩) (upC 5 2)) ∧ Hid (But2 g p w w') := by
  have hb : Below w.heap.size w (w.alloc (.cells (dA g p) 33)) := (Below.refl _ _).alloc (Nat.le_refl _) _
  have V1 := Lib.hid (deskAt_new w g p 33)
  have O1 := Lib.hid (o1.below hb)
  have O2 := Lib.hid (o2.below hb)
  have hs : Hid (g < (w.alloc (.cells (dA g p) 33)).heap.size) := by show _ < _; simp; omega
  have B0 := Lib.hid hb
  have HG := Lib.hid hgp
  have HP := Lib.hid hp
  have hl : Hid (dragonL.length = 2 * 2) := rfl
  clear hb o1 o2 hgp hp
  unfold dV
  unfold dA at V1 O1 O2 B0 hs
  go_enter Try.func8, Try.ntmps8
  go_wp2_with fail
  refine (markGrammar_is ⟨#[70, 88]⟩ g 2 2 1 dragonL _ hs.out O1.out hl.out (by decide) (by decide) (by decide)).mono ?_
  rintro e w1 ⟨rfl, Q1, K1⟩
  have V1a : DeskAt w1 w.heap.size g p := V1.out.block K1.out.size (K1.out.block _ V1.out.lt fun a ha => by injection ha with ha; subst ha; have := HG.out; have := HP.out; show w.heap.size ≠ g; omega)
  have Q2 : Hid (OwnC w1 p (some ⟨p, 0, none⟩) ptsL) := by
    intro h0
    obtain ⟨b, off, hA, hle, hlt, hc, hf⟩ := O2.out h0
    injection hA with hA
    injection hA with e1 e2 _
    subst e1 e2
    have e : w1.heap[p]? = _ := K1.out.block p hlt fun a ha => by injection ha with ha; subst ha; have := HG.out; show p ≠ g; omega
    refine ⟨p, 0, rfl, Nat.le_refl _, Nat.lt_of_lt_of_le hlt K1.out.size, fun j hj => ?_, fun j hj => ?_⟩
    · rw [World.cell?_of_block e]; exact hc j hj
    · rw [World.frozen?_of_block e]; exact hf j hj
  have M1 : Hid (But2 g p w w1) := ⟨(B0.out.mono (by have := HG.out; have := HP.out; omega)).trans K1.out.toBelow, fun k hk h1 _ => by
    rw [K1.out.block k (Nat.lt_of_lt_of_le hk B0.out.size) fun a ha => by injection ha with ha; subst ha; exact h1]
    exact B0.out.block k hk⟩
  clear V1 O1 O2 hs B0 K1
  obtain ⟨c0, c1, c2, c3, c4, c5, c6, c7, c8⟩ := V1a.nine
  clear V1a c0 c1 c2 c3 c4 c5 c6 c7
  go_wp2_with fail
  refine (markC 5 (some ⟨p, 0, none⟩) 2 p ptsL w1 Q2.out (by decide)).mono ?_
  rintro e w2 ⟨rfl, P1, K2⟩
  have Q3 : Hid (OwnS w2 g (some ⟨g, 0, none⟩) (upS 1 4)) := by
    intro h0
    obtain ⟨b, off, hA, hle, hlt, hc, hf⟩ := Q1.out h0
    injection hA with hA
    injection hA with e1 e2 _
    subst e1 e2
    have e : w2.heap[g]? = w1.heap[g]? := K2.out.low g HG.out
    refine ⟨g, 0, rfl, Nat.le_refl _, by rw [K2.out.size]; exact hlt, fun j hj => ?_, fun j hj => ?_⟩
    · rw [World.cell?_of_block e]; exact hc j hj
    · rw [World.frozen?_of_block e]; exact hf j hj
  have M2 : Hid (But2 g p w w2) := ⟨M1.out.below.trans ⟨K2.out.os, K2.out.tape, K2.out.output, by rw [K2.out.size]; exact Nat.le_refl _, fun k hk => K2.out.low k (by have := HG.out; omega)⟩, fun k hk h1 h2 => by
    rw [K2.out.block k fun a ha => by injection ha with ha; subst ha; exact h2]
    exact M1.out.block k hk h1 h2⟩
  clear Q1 Q2 M1 K2 c8
  go_wp2_with fail
  go_ret
  exact ⟨rfl, Q3, P1, M2⟩

set_option maxHeartbeats 2000000 in
theorem heldDesk_is (g p : Nat) (w : World) (Z : Nat) (hZ : Z ≤ w.heap.size) (r1 : RowS w Z (some ⟨g, 0, none⟩) (upS 1 4)) (r2 : RowC w Z (some ⟨p, 0, none⟩) (upC 5 2)) :
    Calls Try.prog 9 #[dV g p, .int .i64 1] w fun e w' => e = .returned (.int .i64 7) ∧ Hid (Below w.heap.size w w') := by
  have V1 := Lib.hid (deskAt_new w g p 33)
  have B0 : Hid (Below w.heap.size w (w.alloc (.cells (dA g p) 33))) := (Below.refl _ _).alloc (Nat.le_refl _) _
  have R1 := Lib.hid (r1.below (B0.out.mono hZ))
  have R2 := Lib.hid r2
  have HZ := Lib.hid hZ
  clear r1 r2 hZ
  unfold dV
  unfold dA at V1 B0 R1
  go_enter Try.func9, Try.ntmps9
  go_wp2_with fail
  refine (heldGrammar_is ⟨#[70, 88]⟩ _ 2 _ 1 Z _ (Nat.le_trans HZ.out B0.out.size) R1.out (by decide) (by decide) (by decide)).mono ?_
  rintro e w1 ⟨rfl, b1⟩
  have V1a : DeskAt w1 w.heap.size g p := V1.out.below b1.out
  have B1 : Hid (Below w.heap.size w w1) := B0.out.trans (b1.out.mono B0.out.size)
  clear V1 B0 R1 b1
  obtain ⟨c0, c1, c2, c3, c4, c5, c6, c7, c8⟩ := V1a.nine
  clear V1a c0 c1 c2 c3 c4 c5 c6 c7
  go_wp2_with fail
  refine (heldC 5 (some ⟨p, 0, none⟩) 2 Z 2 w1 (R2.out.below (B1.out.mono HZ.out)) (by decide)).mono ?_
  rintro e w2 ⟨rfl, rfl⟩
  go_wp2_with fail
  go_ret
  exact ⟨rfl, B1⟩

set_option maxHeartbeats 4000000 in
theorem lawNew (w : World) : Calls Try.prog 3 #[] w fun e w' => e = .returned (.bool true) ∧ Below w.heap.size w w' := by
  have HW : Hid (∀ W, Calls Try.prog 5 #[] W (DeskP W)) := desk_s
  have HI : Hid (∀ W, Calls Try.prog 6 #[] W (DeskP W)) := desk_i
  go_enter Try.func3, Try.ntmps3
  go_wp2_with fail
  refine (HW.out _).mono ?_
  rintro e w1 ⟨g1, p1, rfl, l1, m1, s1, O1, P1, B1⟩
  have hb1 : Below w1.heap.size w1 (w1.alloc (.cells (dA g1 p1) 33)) := (Below.refl _ _).alloc (Nat.le_refl _) _
  have V1 := Lib.hid (deskAt_new w1 g1 p1 33)
  have R1 := Lib.hid (O1.out.row.below hb1)
  have T1 := Lib.hid (P1.out.row.below hb1)
  have C1 := Lib.hid (B1.out.trans (hb1.mono B1.out.size))
  have z1 : Hid (w1.heap.size < (w1.alloc (.cells (dA g1 p1) 33)).heap.size) := V1.out.lt
  have L1 : Hid (w.heap.size ≤ w1.heap.size) := B1.out.size
  clear hb1 O1 P1 B1 l1 m1 s1
  unfold dV
  unfold dA at V1 R1 T1 C1 z1
  go_wp2_with fail
  generalize w1.alloc _ = a1 at *
  generalize w1.heap.size = x1 at *
  refine (HI.out _).mono ?_
  rintro e w2 ⟨g2, p2, rfl, l2, m2, s2, O2, P2, B2⟩
  have hb2 : Below w2.heap.size w2 (w2.alloc (.cells (dA g2 p2) 33)) := (Below.refl _ _).alloc (Nat.le_refl _) _
  have V2 := Lib.hid (deskAt_new w2 g2 p2 33)
  have V1b := Lib.hid ((V1.out.below B2.out).below hb2)
  have R1b := Lib.hid ((R1.out.below (B2.out.mono (Nat.le_of_lt z1.out))).below (hb2.mono (Nat.le_trans (Nat.le_of_lt z1.out) B2.out.size)))
  have T1b := Lib.hid ((T1.out.below (B2.out.mono (Nat.le_of_lt z1.out))).below (hb2.mono (Nat.le_trans (Nat.le_of_lt z1.out) B2.out.size)))
  have O2b := Lib.hid (O2.out.below hb2)
  have P2b := Lib.hid (P2.out.below hb2)
  have C2 := Lib.hid (C1.out.trans ((B2.out.trans (hb2.mono B2.out.size)).mono C1.out.size))
  have N1 : Hid (x1 < g2) := by have := z1.out; show x1 < g2; omega
  have N2 : Hid (g2 < p2) := m2
  have N3 : Hid (p2 < w2.heap.size) := s2
  have N4 : Hid (w2.heap.size < (w2.alloc (.cells (dA g2 p2) 33)).heap.size) := V2.out.lt
  have c := (V1.out.below B2.out).nine
  obtain ⟨c0, c1, c2, c3, c4, c5, c6, c7, c8⟩ := c
  have hx1 : x1 < w2.heap.size := (V1.out.below B2.out).lt
  clear hb2 V1 R1 T1 O2 P2 C1 B2 l2 m2 s2 z1
  unfold dV
  unfold dA at V2 V1b R1b T1b O2b P2b C2 N4
  go_wp2_with fail
  clear c0 c1 c2 c3 c4 c5 c6 c7 c8 hx1
  generalize w2.alloc _ = a2 at *
  generalize w2.heap.size = x2 at *
  have N5 : Hid (x1 ≤ a2.heap.size) := Nat.le_of_lt V1b.out.lt
  refine (eqDesk_is g2 p2 g1 p1 a2 a2.heap.size (Nat.le_refl _) O2b.out.row (R1b.out.mono N5.out) P2b.out.row (T1b.out.mono N5.out)).mono ?_
  rintro e w3 ⟨rfl, B3⟩
  have V1c := Lib.hid (V1b.out.below B3.out)
  have V2c := Lib.hid (V2.out.below B3.out)
  have R1c := Lib.hid (R1b.out.below (B3.out.mono N5.out))
  have T1c := Lib.hid (T1b.out.below (B3.out.mono N5.out))
  have O2c := Lib.hid (O2b.out.below B3.out)
  have P2c := Lib.hid (P2b.out.below B3.out)
  have C3 := Lib.hid (C2.out.trans (B3.out.mono C2.out.size))
  have N6 : Hid (p2 < w3.heap.size) := by have := N3.out; have := V2c.out.lt; show p2 < w3.heap.size; omega
  clear V1b V2 R1b T1b O2b P2b C2 B3 N5 N4
  obtain ⟨d0, d1, d2, d3, d4, d5, d6, d7, d8⟩ := V2c.out.nine
  go_wp2_with fail
  refine (markDesk_is g2 p2 w3 N2.out N6.out O2c.out P2c.out).mono ?_
  rintro e w4 ⟨rfl, O4, P4, B4⟩
  have V1d := Lib.hid (V1c.out.block B4.out.below.size (B4.out.block x1 V1c.out.lt (by have := N1.out; omega) (by have := N1.out; have := N2.out; omega)))
  have V2d := Lib.hid (V2c.out.block B4.out.below.size (B4.out.block x2 V2c.out.lt (by have := N3.out; have := N2.out; omega) (by have := N3.out; omega)))
  have R1d := Lib.hid (R1c.out.below (B4.out.below.mono (Nat.le_of_lt N1.out)))
  have T1d := Lib.hid (T1c.out.below (B4.out.below.mono (Nat.le_of_lt N1.out)))
  have C4 := Lib.hid (C3.out.trans (B4.out.below.mono (Nat.le_trans L1.out (Nat.le_of_lt N1.out))))
  clear d0 d1 d2 d3 d4 d5 d6 d7 d8 V1c V2c R1c T1c O2c P2c C3 B4 N6
  obtain ⟨d0, d1, d2, d3, d4, d5, d6, d7, d8⟩ := V2d.out.nine
  go_wp2_with fail
  refine (heldDesk_is g2 p2 w4 w4.heap.size (Nat.le_refl _) O4.out.row P4.out.row).mono ?_
  rintro e w5 ⟨rfl, B5⟩
  have V1e := Lib.hid (V1d.out.below B5.out)
  have V2e := Lib.hid (V2d.out.below B5.out)
  have R1e := Lib.hid (R1d.out.below (B5.out.mono (Nat.le_of_lt V1d.out.lt)))
  have T1e := Lib.hid (T1d.out.below (B5.out.mono (Nat.le_of_lt V1d.out.lt)))
  have O5 := Lib.hid (O4.out.below B5.out)
  have P5 := Lib.hid (P4.out.below B5.out)
  have C5 := Lib.hid (C4.out.trans (B5.out.mono C4.out.size))
  clear d0 d1 d2 d3 d4 d5 d6 d7 d8 V1d V2d R1d T1d O4 P4 C4 B5
  go_wp2_with fail
  refine (HI.out _).mono ?_
  rintro e w6 ⟨g6, p6, rfl, l6, m6, s6, O6, P6, B6⟩
  have hb6 : Below w6.heap.size w6 (w6.alloc (.cells (dA g6 p6) 33)) := (Below.refl _ _).alloc (Nat.le_refl _) _
  have V6 := Lib.hid (deskAt_new w6 g6 p6 33)
  have V1f := Lib.hid ((V1e.out.below B6.out).below hb6)
  have V2f := Lib.hid ((V2e.out.below B6.out).below hb6)
  have R1f := Lib.hid ((R1e.out.below (B6.out.mono (Nat.le_of_lt V1e.out.lt))).below (hb6.mono (Nat.le_trans (Nat.le_of_lt V1e.out.lt) B6.out.size)))
  have T1f := Lib.hid ((T1e.out.below (B6.out.mono (Nat.le_of_lt V1e.out.lt))).below (hb6.mono (Nat.le_trans (Nat.le_of_lt V1e.out.lt) B6.out.size)))
  have O5f := Lib.hid ((O5.out.below B6.out).below hb6)
  have P5f := Lib.hid ((P5.out.below B6.out).below hb6)
  have O6f := Lib.hid (O6.out.below hb6)
  have P6f := Lib.hid (P6.out.below hb6)
  have C6 := Lib.hid (C5.out.trans ((B6.out.trans (hb6.mono B6.out.size)).mono C5.out.size))
  have c := (V1e.out.below B6.out).nine
  obtain ⟨c0, c1, c2, c3, c4, c5, c6, c7, c8⟩ := c
  have hx1 : x1 < w6.heap.size := (V1e.out.below B6.out).lt
  clear hb6 V1e V2e R1e T1e O5 P5 O6 P6 C5 B6 l6 m6 s6
  unfold dV
  unfold dA at V6 V1f V2f R1f T1f O5f P5f O6f P6f C6
  go_wp2_with fail
  clear c0 c1 c2 c3 c4 c5 c6 c7 c8 hx1
  generalize w6.alloc _ = a6 at *
  generalize w6.heap.size = x6 at *
  refine (eqDesk_is g6 p6 g1 p1 a6 a6.heap.size (Nat.le_refl _) O6f.out.row (R1f.out.mono (Nat.le_of_lt V1f.out.lt)) P6f.out.row (T1f.out.mono (Nat.le_of_lt V1f.out.lt))).mono ?_
  rintro e w7 ⟨rfl, B7⟩
  have V2g := Lib.hid (V2f.out.below B7.out)
  have O7 := Lib.hid (O5f.out.below B7.out)
  have P7 := Lib.hid (P5f.out.below B7.out)
  have C7 := Lib.hid (C6.out.trans (B7.out.mono C6.out.size))
  clear V1f V2f V6 R1f T1f O5f P5f O6f P6f C6 B7
  obtain ⟨d0, d1, d2, d3, d4, d5, d6, d7, d8⟩ := V2g.out.nine
  go_wp2_with fail
  refine (heldDesk_is g2 p2 w7 w7.heap.size (Nat.le_refl _) O7.out.row P7.out.row).mono ?_
  rintro e w8 ⟨rfl, B8⟩
  have C8 := Lib.hid (C7.out.trans (B8.out.mono C7.out.size))
  clear d0 d1 d2 d3 d4 d5 d6 d7 d8 V2g O7 P7 C7 B8
  go_wp2_with fail
  go_ret
  exact ⟨rfl, C8.out⟩

end Go.Proofs.Ytegbclfjcckglaa
