/-
  What is proved here: the law ReadList as a walk, whatever is drawn. Conditions: the library's variables hold what it lays.
-/
import Derived.Test.YtegbclfjcckglaaDoorLiB
namespace Go.Proofs.YtegbclfjcckglaaDoor
open Go.RowKit

theorem liL_short (s : ByteArray) : (liL s).length ≤ 1048576 := by
  unfold liL
  split
  · simp
  · rename_i h
    split
    · rename_i hb
      unfold liB at hb
      rw [if_neg h, Bool.and_eq_true] at hb
      have := of_decide_eq_true hb.1
      rw [rdNs_length]; omega
    · simp

/-- what is known of the library's variables, the length that it measured among them -/
structure VarsM (w : World) : Prop where
  vars : Vars w
  most : ∃ m, w.cell? ⟨2, 0, none⟩ = some (.int .i64 m)
theorem VarsM.below {w w' : World} (h : VarsM w) (hb : Below w.heap.size w w') : VarsM w' := by
  obtain ⟨m, hm⟩ := h.most
  refine ⟨h.vars.below hb, m, ?_⟩
  have hlt : 2 < w.heap.size := by
    rcases Nat.lt_or_ge 2 w.heap.size with h | h
    · exact h
    · exfalso; simp [World.cell?, Array.getElem?_eq_none h] at hm
  rw [hb.cell hlt]; exact hm

theorem specRL (s : ByteArray) (hs : s.size ≤ 1048576) (w : World) :
    Calls Tryd.prog 39 #[.string s] w (LPost (liL s) (liB s) w) := by
  have HS := Lib.hid (specLi s hs w)
  go_enter Tryd.func39, Tryd.ntmps39
  go_wp2_with (go_at_call 86; refine HS.out.mono ?_; rintro e w1 ⟨A, c, rfl, hO, hB⟩)
  go_ret2
  exact ⟨A, c, rfl, hO, hB⟩

theorem specLi2 (s : ByteArray) (hs : s.size ≤ 1048576) {w0 w : World} (hb : Hid (Below w0.heap.size w0 w)) :
    Calls Tryd.prog 39 #[.string s] w fun e w' => ∃ A c, e = .returned (.tuple #[.slice A (liL s).length c, .bool (liB s)]) ∧ Hid (OwnI w' w.heap.size A (liL s)) ∧ Hid (Below w.heap.size w w') ∧ Hid (Below w0.heap.size w0 w') :=
  (specRL s hs w).mono fun _ _ ⟨A, c, h1, h2, h3⟩ => ⟨A, c, h1, h2, h3, hb.out.trans (h3.out.mono hb.out.size)⟩
theorem implLi2 (s : ByteArray) (hs : s.size ≤ 1048576) {w0 w : World} (hv : Hid (VarsM w0)) (hb : Hid (Below w0.heap.size w0 w)) :
    Calls Tryd.prog 40 #[.string s] w fun e w' => ∃ A c, e = .returned (.tuple #[.slice A (liL s).length c, .bool (liB s)]) ∧ Hid (OwnI w' w.heap.size A (liL s)) ∧ Hid (Below w.heap.size w w') ∧ Hid (Below w0.heap.size w0 w') :=
  (implLi s hs w (hv.out.below hb.out).vars (hv.out.below hb.out).most).mono fun _ _ ⟨A, c, h1, h2, h3⟩ => ⟨A, c, h1, h2, h3, hb.out.trans (h3.out.mono hb.out.size)⟩

theorem lawLi (s : ByteArray) (hs : s.size ≤ maxLen) (w : World) (hv : VarsM w) :
    Calls Tryd.prog 10 #[.string s] w fun e w' => e = .returned (.bool true) ∧ Below w.heap.size w w' := by
  have HV := Lib.hid hv
  clear hv
  unfold maxLen at hs
  by_cases hbig : 1048576 < s.size
  · go_enter Tryd.func10, Tryd.ntmps10
    go_wp2
    go_ret
    exact ⟨rfl, Below.refl _ _⟩
  · have hn : s.size ≤ 1048576 := by omega
    have B0 : Hid (Below w.heap.size w w) := Below.refl _ _
    have hL := liL_short s
    clear hbig
    go_enter Tryd.func10, Tryd.ntmps10
    -- what the model answers
    go_wp2_with fail
    refine (specLi2 s hn B0).mono ?_
    rintro e w1 ⟨AW, cW, rfl, W1, P1, B1⟩
    have V1 := Lib.hid W1.out.row
    have LX := Lib.hid P1.out.size
    clear W1 P1 B0
    go_wp2_with fail
    -- what the program answers
    refine (implLi2 s hn HV B1).mono ?_
    rintro e w2 ⟨AG, cG, rfl, G2, P2, B2⟩
    have V2 := Lib.hid (V1.out.below P2.out)
    have Y2 := Lib.hid P2.out.size
    clear V1 P2 B1
    go_wp2_with fail
    refine (eqI _ _ _ _ (liL s) w2 w2.heap.size G2.out.row (V2.out.mono Y2.out) hL).mono ?_
    rintro e w' ⟨rfl, n1, rfl⟩
    have G3 : Hid (OwnI (w2.drewN n1) w1.heap.size AG (liL s)) := G2
    have V3 : Hid (RowI (w2.drewN n1) w1.heap.size AW (liL s)) := V2
    have B3 : Hid (Below w.heap.size w (w2.drewN n1)) := belowN B2.out
    have Y3 : Hid (w1.heap.size ≤ (w2.drewN n1).heap.size) := Y2
    clear G2 V2 B2 Y2
    generalize w2.drewN n1 = w3 at *
    go_wp2_with fail
    -- the answer is written, and looked at
    refine (mark1 _ _ _ (liL s) w3 G3.out hL).mono ?_
    rintro e w4 ⟨rfl, G4, M4⟩
    have V4 := Lib.hid (V3.out.but M4.out (Nat.le_refl _))
    have B4 : Hid (Below w.heap.size w w4) := B3.out.trans (M4.out.toBelow.mono LX.out)
    have Y4 : Hid (w1.heap.size ≤ w4.heap.size) := by show w1.heap.size ≤ w4.heap.size; rw [M4.out.size]; exact Y3.out
    clear G3 V3 B3 Y3 M4
    go_wp2_with fail
    refine (held1 _ _ w4.heap.size (liL s).length w4 G4.out.row hL).mono ?_
    rintro e w' ⟨rfl, rfl⟩
    go_wp2_with fail
    -- once more
    refine (implLi2 s hn HV B4).mono ?_
    rintro e w5 ⟨AH, cH, rfl, H5, P5, B5⟩
    have G5 := Lib.hid (G4.out.below P5.out)
    have V5 := Lib.hid (V4.out.below (P5.out.mono Y4.out))
    have Y5 : Hid (w1.heap.size ≤ w5.heap.size) := Nat.le_trans Y4.out P5.out.size
    clear G4 V4 B4 Y4 P5
    go_wp2_with fail
    refine (eqI _ _ _ _ (liL s) w5 w5.heap.size H5.out.row (V5.out.mono Y5.out) hL).mono ?_
    rintro e w' ⟨rfl, n2, rfl⟩
    have G6 : Hid (OwnI (w5.drewN n2) w1.heap.size AG (up 1 (liL s).length)) := G5
    have B6 : Hid (Below w.heap.size w (w5.drewN n2)) := belowN B5.out
    clear G5 V5 B5 Y5 H5
    generalize w5.drewN n2 = w6 at *
    go_wp2_with fail
    refine (held1 _ _ w6.heap.size (liL s).length w6 G6.out.row hL).mono ?_
    rintro e w' ⟨rfl, rfl⟩
    go_wp2_with fail
    go_ret
    exact ⟨rfl, B6.out⟩

end Go.Proofs.YtegbclfjcckglaaDoor
