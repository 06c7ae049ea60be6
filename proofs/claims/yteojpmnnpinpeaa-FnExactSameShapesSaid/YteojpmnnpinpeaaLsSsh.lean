/-
  What is proved here: the law SameShapes, as a walk. Conditions: the lists are ones that a machine can hold.
-/
import Derived.Test.YteojpmnnpinpeaaSsb
namespace Go.Proofs.Yteojpmnnpinpeaa
open Go.RowKit
set_option linter.unusedVariables false

set_option maxHeartbeats 8000000 in
theorem lawSsh (A : Option Addr) (n c : Nat) (f : Nat → Sh) (B : Option Addr) (m d : Nat) (g : Nat → Sh) {w : World} (hl : ListSh w A n f) (hk : ListSh w B m g) :
    Calls Try.prog 3 #[.slice A n c, .slice B m d] w fun e w' => e = .returned (.bool true) ∧ Below w.heap.size w w' := by
  obtain ⟨hr, hN, hS⟩ := hl
  obtain ⟨hq, hM, hT⟩ := hk
  have HR := Lib.hid hr
  have HQ := Lib.hid hq
  have HT := Lib.hid hT
  have HZ := Lib.hid (szShaS_is A n c f 1048576 w hr hN hS (Nat.le_refl _))
  clear hr hq hS hT
  go_enter Try.func3, Try.ntmps3
  go_wp2_with fail
  refine HZ.out.mono ?_
  rintro e w1 ⟨r, rfl, hsz, hb⟩
  clear HZ
  by_cases hr0 : r < 0
  · go_wp2_with fail
    go_ret
    exact ⟨rfl, hb.out⟩
  · obtain ⟨s1, s2⟩ := hsz.out.1 (by omega)
    have hrl := hsz.out.2.2
    have HF : Hid (∀ j, j < n → (f j).len ≤ 1048576) := fun j hj => (s2 j hj).2
    obtain ⟨q, rfl⟩ : ∃ q : Nat, r = q := ⟨r.toNat, by omega⟩
    have hq1 : q ≤ 1048576 := by omega
    clear hsz s2 hr0 hrl
    generalize hX : w.heap.size = X at *
    have HX := Lib.hid hX
    clear hX
    have z1 : Hid (X ≤ w1.heap.size) := by show _ ≤ _; rw [← HX.out]; exact hb.out.size
    have HY := Lib.hid (szShaS_is B m d g q w1 ((HQ.out.below hb.out).mono z1.out) hM HT.out hq1)
    go_wp2_with fail
    refine HY.out.mono ?_
    rintro e w2 ⟨r2, rfl, hsz, hb2⟩
    have B2 : Hid (Below X w w2) := hb.out.trans (hb2.out.mono z1.out)
    have z2 : Hid (X ≤ w2.heap.size) := Nat.le_trans z1.out hb2.out.size
    clear HY hb hb2 z1
    by_cases hr0 : r2 < 0
    · go_wp2_with fail
      go_ret
      exact ⟨rfl, by rw [HX.out]; exact B2.out⟩
    · obtain ⟨t1, t2⟩ := hsz.out.1 (by omega)
      have HE : Hid (∀ j, j < m → (g j).len ≤ 1048576) := fun j hj => Nat.le_trans (t2 j hj).2 hq1
      have hm1 : m ≤ 1048576 := by omega
      have hr2 : 0 ≤ r2 := by omega
      clear hsz t2 hr0 t1
      go_wp2_with fail
      refine (toShaS A n c f w2 ((HR.out.below B2.out).mono z2.out) s1 HF.out).mono ?_
      rintro e w3 ⟨G3, rfl, _, O3, b3⟩
      have B3 := Lib.hid (B2.out.trans (b3.out.mono z2.out))
      have z3 : Hid (X ≤ w3.heap.size) := Nat.le_trans z2.out b3.out.size
      clear b3 B2 z2
      go_wp2_with fail
      refine (toShaS B m d g w3 ((HQ.out.below B3.out).mono z3.out) hm1 HE.out).mono ?_
      rintro e w4 ⟨G4, rfl, _, O4, b4⟩
      have B4 := Lib.hid (B3.out.trans (b4.out.mono z3.out))
      have z4 : Hid (X ≤ w4.heap.size) := Nat.le_trans z3.out b4.out.size
      have O3b := Lib.hid (O3.out.below b4.out)
      clear b4 B3 z3 O3
      go_wp2_with fail
      refine (specSS _ _ n _ m _ f g w4 O3b.out.row O4.out.row s1 hm1 HF.out HE.out).mono ?_
      rintro e w5 ⟨rfl, k5, rfl⟩
      have B5 : Hid (Below X w (w4.drewN k5)) := belowN B4.out
      have z5 : Hid (X ≤ (w4.drewN k5).heap.size) := z4
      clear B4 z4 O3b O4
      generalize w4.drewN k5 = w5 at *
      go_wp2_with fail
      refine (toShaS A n c f w5 ((HR.out.below B5.out).mono z5.out) s1 HF.out).mono ?_
      rintro e w6 ⟨G6, rfl, _, O6, b6⟩
      have B6 := Lib.hid (B5.out.trans (b6.out.mono z5.out))
      have z6 : Hid (X ≤ w6.heap.size) := Nat.le_trans z5.out b6.out.size
      clear b6 B5 z5
      go_wp2_with fail
      refine (toShaS B m d g w6 ((HQ.out.below B6.out).mono z6.out) hm1 HE.out).mono ?_
      rintro e w7 ⟨G7, rfl, _, O7, b7⟩
      have B7 := Lib.hid (B6.out.trans (b7.out.mono z6.out))
      have z7 : Hid (X ≤ w7.heap.size) := Nat.le_trans z6.out b7.out.size
      have O6b := Lib.hid (O6.out.below b7.out)
      clear b7 B6 z6 O6
      go_wp2_with fail
      refine (implSS _ _ n _ m _ f g w7 O6b.out.row O7.out.row s1 hm1 HF.out HE.out).mono ?_
      rintro e w8 ⟨rfl, b8⟩
      have B8 := Lib.hid (B7.out.trans (b8.out.mono z7.out))
      have z8 : Hid (X ≤ w8.heap.size) := Nat.le_trans z7.out b8.out.size
      have O6c := Lib.hid (O6b.out.below b8.out)
      have O7c := Lib.hid (O7.out.below b8.out)
      clear b8 B7 z7 O6b O7
      generalize ssB n f m g = bb at *
      cases bb
      all_goals
        go_wp2_with fail
        refine (toShaS A n c f w8 ((HR.out.below B8.out).mono z8.out) s1 HF.out).mono ?_
        rintro e w9 ⟨G9, rfl, _, O9, b9⟩
        have B9 := Lib.hid (B8.out.trans (b9.out.mono z8.out))
        have z9 : Hid (X ≤ w9.heap.size) := Nat.le_trans z8.out b9.out.size
        have O6d := Lib.hid (O6c.out.below b9.out)
        have O7d := Lib.hid (O7c.out.below b9.out)
        clear b9 B8 z8 O6c O7c
        go_wp2_with fail
        refine (eqShaS G6 G9 n _ _ f w9 O6d.out O9.out s1 HF.out).mono ?_
        rintro e w10 ⟨rfl, b10⟩
        have B10 := Lib.hid (B9.out.trans (b10.out.mono z9.out))
        have z10 : Hid (X ≤ w10.heap.size) := Nat.le_trans z9.out b10.out.size
        have O7e := Lib.hid (O7d.out.below b10.out)
        clear b10 B9 z9 O6d O7d O9
        go_wp2_with fail
        refine (toShaS B m d g w10 ((HQ.out.below B10.out).mono z10.out) hm1 HE.out).mono ?_
        rintro e w11 ⟨G11, rfl, _, O11, b11⟩
        have B11 := Lib.hid (B10.out.trans (b11.out.mono z10.out))
        have z11 : Hid (X ≤ w11.heap.size) := Nat.le_trans z10.out b11.out.size
        have O7f := Lib.hid (O7e.out.below b11.out)
        clear b11 B10 z10 O7e
        go_wp2_with fail
        refine (eqShaS G7 G11 m _ _ g w11 O7f.out O11.out hm1 HE.out).mono ?_
        rintro e w12 ⟨rfl, b12⟩
        have B12 := Lib.hid (B11.out.trans (b12.out.mono z11.out))
        clear b12 B11 z11
        go_wp2_with fail
        go_ret
        exact ⟨rfl, by rw [HX.out]; exact B12.out⟩

end Go.Proofs.Yteojpmnnpinpeaa
