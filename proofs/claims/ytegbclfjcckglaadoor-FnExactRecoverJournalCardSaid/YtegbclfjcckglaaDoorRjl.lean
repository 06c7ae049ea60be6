/-
  What is proved here: RecoverJournal of the model, and the law, as walks. Conditions: the library's variables hold what it lays.
-/
import Derived.Test.YtegbclfjcckglaaDoorRjs
namespace Go.Proofs.YtegbclfjcckglaaDoor
open Go.RowKit

theorem specRJ (s : ByteArray) (hs : s.size ≤ 1048576) (w : World) : Calls Tryd.prog 31 #[.string s] w (RJP s w) := by
  by_cases hbig : 16000 < s.size
  · have e1 : rjB s = false := decide_eq_false (by omega)
    have e2 : rjL s = [] := by unfold rjL; rw [e1]; rfl
    have e3 : rjN s = 0 := by unfold rjN; rw [e1]; rfl
    have N := Lib.hid (And.intro e1 (And.intro e2 e3))
    clear e1 e2 e3
    go_enter Tryd.func31, Tryd.ntmps31
    go_wp2_with fail
    go_ret3
    exact ⟨none, 0, by rw [N.out.1, N.out.2.1, N.out.2.2]; rfl, by rw [N.out.2.1]; exact World.ownsRow_nil _ _ _ _, Below.refl _ _⟩
  have e1 : rjB s = true := decide_eq_true (by omega)
  have e2 : rjL s = rcL s := by unfold rjL; rw [e1]; rfl
  have e3 : rjN s = (rcN s : Int) := by unfold rjN; rw [e1]; rfl
  have N := Lib.hid (And.intro e1 (And.intro e2 e3))
  have H := Lib.hid (specRec s hs w)
  clear e1 e2 e3
  generalize rcL s = RL at *
  generalize rcN s = RN at *
  go_enter Tryd.func31, Tryd.ntmps31
  go_wp2_with fail
  refine H.out.mono ?_
  rintro e w1 ⟨A, c, rfl, hO, hB⟩
  go_wp2_with fail
  go_ret3
  exact ⟨A, c, by rw [N.out.1, N.out.2.1, N.out.2.2]; rfl, by rw [N.out.2.1]; exact hO, hB⟩

theorem own_T {w : World} {G c : Nat} {A : Option Addr} {L : List ByteArray} (h : w.ownsRow G 9 1 (.slice A L.length c) L.length (L.map Value.string)) : OwnT w G A L := by
  intro h0
  rcases h.2 with ⟨_, h1⟩ | ⟨g, cap, cur, h1, h2, h3, _⟩
  · omega
  · injection h1 with h1 h4 h5
    subst h1 h5
    obtain ⟨_, hlt⟩ := World.ownsRow.lt h g rfl
    refine ⟨g, 0, rfl, h2, hlt, fun j hj => ?_, fun j _ => World.ownsRow.frozenAt h _⟩
    rw [Nat.zero_add, World.ownsRow.cellAt h j (by omega), List.getElem?_map]
    simp [atT, List.getD, hj]

theorem rjL_few (s : ByteArray) : (rjL s).length ≤ 16001 := by
  unfold rjL
  split
  · rename_i h
    have h1 := of_decide_eq_true h
    rw [List.length_map]
    have key : ∀ (L : List (List UInt8)) (c : Int), (recA c L).1.length ≤ L.length := by
      intro L
      induction L with
      | nil => intro c; simp [recA]
      | cons p r ih =>
        intro c
        unfold recA
        split
        · simp
        · split
          · simp
          · split
            · have := ih (chk c ‹_›); simp; omega
            · simp
    have := key (cutD 10 s.data.toList) 0
    have h2 := cutD_len 10 s.data.toList
    rw [size_list] at h2
    omega
  · simp

set_option maxHeartbeats 2000000 in
theorem lawRJ (s : ByteArray) (hs : s.size ≤ maxLen) (w : World) (hv : VarsJ w) :
    Calls Tryd.prog 8 #[.string s] w fun e w' => e = .returned (.bool true) ∧ Below w.heap.size w w' := by
  have HV := Lib.hid hv
  clear hv
  unfold maxLen at hs
  by_cases hbig : 1048576 < s.size
  · go_enter Tryd.func8, Tryd.ntmps8
    go_wp2
    go_ret
    exact ⟨rfl, Below.refl _ _⟩
  · have hn : s.size ≤ 1048576 := by omega
    have HS : Hid (∀ W, Calls Tryd.prog 31 #[.string s] W (RJP s W)) := fun W => specRJ s hn W
    have HI : Hid (∀ W, VarsJ W → Calls Tryd.prog 32 #[.string s] W (RJP s W)) := fun W h => implRJ s hn W h
    have hl := rjL_few s
    have hL : (rjL s).length ≤ 1048576 := by omega
    unfold RJP at HS HI
    clear hbig hl
    generalize rjL s = L at *
    generalize rjN s = N at *
    generalize rjB s = b at *
    go_enter Tryd.func8, Tryd.ntmps8
    go_wp2_with fail
    refine (HS.out _).mono ?_
    rintro e w1 ⟨A1, c1, rfl, O1, B1⟩
    have R1 := Lib.hid (own_T O1.out).row
    clear O1
    go_wp2_with fail
    refine (HI.out _ (HV.out.below B1.out)).mono ?_
    rintro e w2 ⟨A2, c2, rfl, O2, B2⟩
    have P2 := Lib.hid (own_T O2.out)
    have R2 := Lib.hid (R1.out.below B2.out)
    have C2 := Lib.hid (B1.out.trans (B2.out.mono B1.out.size))
    have z2 : Hid (w1.heap.size ≤ w2.heap.size) := B2.out.size
    have z1 : Hid (w.heap.size ≤ w1.heap.size) := B1.out.size
    clear O2 R1 B1 B2
    generalize w1.heap.size = x1 at *
    go_wp2_with fail
    refine (eqStr_is A2 A1 _ _ L w2 w2.heap.size P2.out.row (R2.out.mono z2.out) hL).mono ?_
    rintro e w3 ⟨rfl, n3, rfl⟩
    have b3 : Below w2.heap.size w2 (w2.drewN n3) := ⟨rfl, rfl, rfl, Nat.le_refl _, fun _ _ => rfl⟩
    have P3 := Lib.hid (P2.out.below b3)
    have R3 := Lib.hid (R2.out.below (b3.mono z2.out))
    have C3 := Lib.hid (C2.out.trans (b3.mono C2.out.size))
    have z3 : Hid (x1 ≤ (w2.drewN n3).heap.size) := Nat.le_trans z2.out b3.size
    clear P2 R2 C2 b3 z2
    go_wp2_with fail
    generalize w2.drewN n3 = w3 at *
    refine (markStr_is A2 _ 1 x1 L w3 z3.out P3.out hL (by decide) (by decide)).mono ?_
    rintro e w4 ⟨rfl, P4, K4⟩
    have R4 := Lib.hid (R3.out.below K4.out.toBelow)
    have C4 := Lib.hid (C3.out.trans (K4.out.toBelow.mono z1.out))
    have z4 : Hid (x1 ≤ w4.heap.size) := Nat.le_trans z3.out K4.out.size
    clear P3 R3 C3 K4 z3
    go_wp2_with fail
    refine (heldStr_is A2 L.length _ 1 w4.heap.size w4 (Nat.le_refl _) P4.out.row hL (by decide) (by decide)).mono ?_
    rintro e w5 ⟨rfl, B5⟩
    have P5 := Lib.hid (P4.out.below B5.out)
    have R5 := Lib.hid (R4.out.below (B5.out.mono z4.out))
    have C5 := Lib.hid (C4.out.trans (B5.out.mono C4.out.size))
    have z5 : Hid (x1 ≤ w5.heap.size) := Nat.le_trans z4.out B5.out.size
    clear P4 R4 C4 B5 z4
    go_wp2_with fail
    refine (HI.out _ (HV.out.below C5.out)).mono ?_
    rintro e w6 ⟨A6, c6, rfl, O6, B6⟩
    have Q6 := Lib.hid (own_T O6.out)
    have P6 := Lib.hid (P5.out.below B6.out)
    have R6 := Lib.hid (R5.out.below (B6.out.mono z5.out))
    have C6 := Lib.hid (C5.out.trans (B6.out.mono C5.out.size))
    have z6 : Hid (x1 ≤ w6.heap.size) := Nat.le_trans z5.out B6.out.size
    clear P5 R5 C5 B6 z5 O6
    go_wp2_with fail
    refine (eqStr_is A6 A1 _ _ L w6 w6.heap.size Q6.out.row (R6.out.mono z6.out) hL).mono ?_
    rintro e w7 ⟨rfl, n7, rfl⟩
    have b7 : Below w6.heap.size w6 (w6.drewN n7) := ⟨rfl, rfl, rfl, Nat.le_refl _, fun _ _ => rfl⟩
    have P7 := Lib.hid (P6.out.below b7)
    have C7 := Lib.hid (C6.out.trans (b7.mono C6.out.size))
    clear P6 R6 C6 b7 Q6
    go_wp2_with fail
    generalize w6.drewN n7 = w7 at *
    refine (heldStr_is A2 L.length _ 1 w7.heap.size w7 (Nat.le_refl _) P7.out.row hL (by decide) (by decide)).mono ?_
    rintro e w8 ⟨rfl, B8⟩
    have C8 := Lib.hid (C7.out.trans (B8.out.mono C7.out.size))
    clear P7 C7 B8
    go_wp2_with fail
    go_ret
    exact ⟨rfl, C8.out⟩

end Go.Proofs.YtegbclfjcckglaaDoor
