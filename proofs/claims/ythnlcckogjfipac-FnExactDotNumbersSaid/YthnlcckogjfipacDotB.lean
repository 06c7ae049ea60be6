/-
  What is proved here: the law DotNumbers as a walk, whatever is drawn. Conditions: the lists are ones that a machine can hold.
-/
import Derived.Test.YthnlcckogjfipacSumB
import Derived.Test.YthnlcckogjfipacDot
namespace Go.Proofs.Ythnlcckogjfipac
open Flt Go.RowKit

theorem belowN {B n : Nat} {a w : World} (h : Below B a w) : Below B a (w.drewN n) := ⟨h.os, h.tape, h.output, h.size, h.block⟩

theorem RowF.carry {w w' : World} {A : Option Addr} {zs : List Nat} (h : RowF w w.heap.size A zs) (hb : Below w.heap.size w w') : Hid (RowF w' w'.heap.size A zs) := (h.below hb).mono hb.size

/-- a copy, seen from the world that came in -/
theorem toF2 (A : Option Addr) (c : Nat) (zs : List Nat) {w0 w : World} (hr : Hid (RowF w0 w0.heap.size A zs)) (hb : Hid (Below w0.heap.size w0 w)) (hn : zs.length ≤ 1048576) :
    Calls Try.prog 8 #[.slice A zs.length c] w fun e w' => ∃ g, e = .returned (.slice (some ⟨g, 0, none⟩) zs.length zs.length) ∧ Hid (RowF w' w'.heap.size (some ⟨g, 0, none⟩) zs) ∧ Hid (Below w.heap.size w w') ∧ Hid (Below w0.heap.size w0 w') :=
  (toF A c zs w ((hr.out.below hb.out).mono hb.out.size) hn).mono fun _ _ ⟨g, h1, _, _, h4, h5⟩ => ⟨g, h1, h4, h5, hb.out.trans (h5.mono hb.out.size)⟩

theorem lawDot (A : Option Addr) (len c : Nat) (xs : List Nat) (B : Option Addr) (len2 d : Nat) (ys : List Nat) {w : World} (hl : ListF w A len xs) (hk : ListF w B len2 ys) :
    Calls Try.prog 4 #[.slice A len c, .slice B len2 d] w fun e w' => e = .returned (.bool true) ∧ Below w.heap.size w w' := by
  obtain ⟨hsz, hrow, hmax⟩ := hl
  obtain ⟨hsz2, hrow2, hmax2⟩ := hk
  subst hsz hsz2
  unfold maxLen at hmax hmax2
  by_cases hbig : 1048576 < xs.length
  · clear hrow hrow2
    go_enter Try.func4, Try.ntmps4
    go_wp2
    go_ret
    exact ⟨rfl, Below.refl _ _⟩
  · have hn : xs.length ≤ 1048576 := by omega
    by_cases hbig2 : 1048576 < ys.length
    · clear hrow hrow2 hbig
      go_enter Try.func4, Try.ntmps4
      go_wp2
      go_ret
      exact ⟨rfl, Below.refl _ _⟩
    · have hn2 : ys.length ≤ 1048576 := by omega
      have R := Lib.hid hrow
      have S := Lib.hid hrow2
      have B0 : Hid (Below w.heap.size w w) := Below.refl _ _
      clear hrow hrow2 hbig hbig2 hmax hmax2
      go_enter Try.func4, Try.ntmps4
      go_wp2_with fail
      refine (toF2 A c xs R B0 hn).mono ?_
      rintro e w1 ⟨g1, rfl, R1, P1, B1⟩
      go_wp2_with fail
      refine (toF2 B d ys S B1 hn2).mono ?_
      rintro e w2 ⟨g2, rfl, S2, P2, B2⟩
      have R2 := R1.out.carry P2.out
      clear R1 P1 P2 B1 B0
      go_wp2_with fail
      refine (specDotN _ _ _ _ xs ys w2 w2.heap.size R2.out S2.out hn).mono ?_
      rintro e w' ⟨s1, n1, rfl, rfl, hs1⟩
      have B3 : Hid (Below w.heap.size w (w2.drewN n1)) := belowN B2.out
      clear R2 S2 B2
      go_wp2_with fail
      refine (toF2 A c xs R B3 hn).mono ?_
      rintro e w3 ⟨g3, rfl, R3, P3, B4⟩
      clear B3 P3
      go_wp2_with fail
      refine (toF2 B d ys S B4 hn2).mono ?_
      rintro e w4 ⟨g4, rfl, S4, P4, B5⟩
      have R4 := R3.out.carry P4.out
      clear R3 P4 B4
      go_wp2_with fail
      refine (implDotN _ _ _ _ xs ys w4 w4.heap.size R4.out S4.out hn).mono ?_
      rintro e w' ⟨s2, n2, rfl, rfl, hs2⟩
      go_wp2_with (first | (go_at_call 10; refine (sameFloat_any _ _ (wid_eq2 (by assumption) (by assumption) (by assumption) (by assumption)) _).mono ?_; rintro e w' ⟨rfl, n3, rfl⟩) | ((with_reducible refine upon_wid ?_ ?_ ?_); rotate_left 2; intro _ _ _ _; rotate_left 1; kernel_rfl; kernel_rfl))
      generalize n2 + _ + _ + n3 = m
      have R5 : Hid (RowF (w4.drewN m) (w4.drewN m).heap.size (some ⟨g3, 0, none⟩) xs) := R4
      have S5 : Hid (RowF (w4.drewN m) (w4.drewN m).heap.size (some ⟨g4, 0, none⟩) ys) := S4
      have B6 : Hid (Below w.heap.size w (w4.drewN m)) := belowN B5.out
      clear R4 S4 B5
      generalize w4.drewN m = w5 at *
      refine (toF2 A c xs R B6 hn).mono ?_
      rintro e w6 ⟨g6, rfl, R6, P6, B7⟩
      have R7 := R5.out.carry P6.out
      have S7 := S5.out.carry P6.out
      clear R5 S5 P6 B6
      go_wp2_with fail
      refine (eqF _ _ _ _ xs w6 w6.heap.size R7.out R6.out hn).mono ?_
      rintro e w' ⟨rfl, n4, rfl⟩
      have S8 : Hid (RowF (w6.drewN n4) (w6.drewN n4).heap.size (some ⟨g4, 0, none⟩) ys) := S7
      have B8 : Hid (Below w.heap.size w (w6.drewN n4)) := belowN B7.out
      clear R6 R7 S7 B7
      generalize w6.drewN n4 = w7 at *
      go_wp2_with fail
      refine (toF2 B d ys S B8 hn2).mono ?_
      rintro e w8 ⟨g8, rfl, S9, P8, B9⟩
      have S10 := S8.out.carry P8.out
      clear S8 P8 B8
      go_wp2_with fail
      refine (eqF _ _ _ _ ys w8 w8.heap.size S10.out S9.out hn2).mono ?_
      rintro e w' ⟨rfl, n5, rfl⟩
      have B10 : Hid (Below w.heap.size w (w8.drewN n5)) := belowN B9.out
      clear S9 S10 B9
      go_wp2_with fail
      go_ret
      exact ⟨rfl, B10.out⟩

end Go.Proofs.Ythnlcckogjfipac
