/-
  What is proved here: the law StoreShapes, as a walk. Conditions: the list is one that a machine can hold.
-/
import Derived.Test.YteojpmnnpinpeaaSts
namespace Go.Proofs.Yteojpmnnpinpeaa
open Go.RowKit
set_option linter.unusedVariables false

set_option maxHeartbeats 8000000 in
theorem lawSts (A : Option Addr) (n c : Nat) (f : Nat → Sh) {w : World} (hl : ListSh w A n f) :
    Calls Try.prog 8 #[.slice A n c] w fun e w' => e = .returned (.bool true) ∧ Below w.heap.size w w' := by
  obtain ⟨hr, hN, hS⟩ := hl
  have HR := Lib.hid hr
  have HZ := Lib.hid (szShaS_is A n c f 1048576 w hr hN hS (Nat.le_refl _))
  clear hr hS
  go_enter Try.func8, Try.ntmps8
  go_wp2_with fail
  refine HZ.out.mono ?_
  rintro e w1 ⟨r, rfl, hsz, hb⟩
  clear HZ
  by_cases hr0 : r < 0
  · go_wp2_with fail
    go_ret
    exact ⟨rfl, hb.out⟩
  · obtain ⟨s1, s2⟩ := hsz.out.1 (by omega)
    have HF : Hid (∀ j, j < n → (f j).name.size ≤ 1048576 ∧ (f j).len ≤ 1048576) := s2
    have HG : Hid (∀ j, j < n → (f j).len ≤ 1048576) := fun j hj => (s2 j hj).2
    have hr1 : 0 ≤ r := by omega
    clear hsz s2 hr0
    generalize hX : w.heap.size = X at *
    have HX := Lib.hid hX
    clear hX
    have z1 : Hid (X ≤ w1.heap.size) := by show _ ≤ _; rw [← HX.out]; exact hb.out.size
    go_wp2_with fail
    refine (toShaS A n c f w1 ((HR.out.below hb.out).mono z1.out) s1 HG.out).mono ?_
    rintro e w3 ⟨G3, rfl, _, O3, b3⟩
    have B3 := Lib.hid (hb.out.trans (b3.out.mono z1.out))
    have z3 : Hid (X ≤ w3.heap.size) := Nat.le_trans z1.out b3.out.size
    clear b3 hb z1
    go_wp2_with fail
    refine (specSts _ n _ f w3 O3.out.row s1 HF.out).mono ?_
    rintro e w5 ⟨rfl, b5⟩
    have B5 := Lib.hid (B3.out.trans (b5.out.mono z3.out))
    have z5 : Hid (X ≤ w5.heap.size) := Nat.le_trans z3.out b5.out.size
    clear b5 B3 z3 O3
    go_wp2_with fail
    refine (toShaS A n c f w5 ((HR.out.below B5.out).mono z5.out) s1 HG.out).mono ?_
    rintro e w6 ⟨G6, rfl, _, O6, b6⟩
    have B6 := Lib.hid (B5.out.trans (b6.out.mono z5.out))
    have z6 : Hid (X ≤ w6.heap.size) := Nat.le_trans z5.out b6.out.size
    clear b6 B5 z5
    go_wp2_with fail
    refine (implSts _ n _ f w6 O6.out.row s1 HF.out).mono ?_
    rintro e w8 ⟨rfl, b8⟩
    have B8 := Lib.hid (B6.out.trans (b8.out.mono z6.out))
    have z8 : Hid (X ≤ w8.heap.size) := Nat.le_trans z6.out b8.out.size
    have O6c := Lib.hid (O6.out.below b8.out)
    clear b8 B6 z6 O6
    generalize stsT f n = tt at *
    generalize stsB f n = bb at *
    cases bb
    all_goals
      go_wp2_with fail
      refine (toShaS A n c f w8 ((HR.out.below B8.out).mono z8.out) s1 HG.out).mono ?_
      rintro e w9 ⟨G9, rfl, _, O9, b9⟩
      have B9 := Lib.hid (B8.out.trans (b9.out.mono z8.out))
      have z9 : Hid (X ≤ w9.heap.size) := Nat.le_trans z8.out b9.out.size
      have O6d := Lib.hid (O6c.out.below b9.out)
      clear b9 B8 z8 O6c
      go_wp2_with fail
      refine (eqShaS G6 G9 n _ _ f w9 O6d.out O9.out s1 HG.out).mono ?_
      rintro e w10 ⟨rfl, b10⟩
      have B10 := Lib.hid (B9.out.trans (b10.out.mono z9.out))
      clear b10 B9 z9 O6d O9
      go_wp2_with fail
      go_ret
      exact ⟨rfl, by rw [HX.out]; exact B10.out⟩

end Go.Proofs.Yteojpmnnpinpeaa
