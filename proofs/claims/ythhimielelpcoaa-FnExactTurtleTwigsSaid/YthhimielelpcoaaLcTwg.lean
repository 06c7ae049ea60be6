/-
  What is proved here: the law FnExactTurtleTwigs, as a walk. Conditions: a text that a machine can hold.
-/
import Derived.Test.YthhimielelpcoaaTwb
import Derived.Test.YthhimielelpcoaaMkd
namespace Go.Proofs.Ythhimielelpcoaa
open Flt Go.RowKit
set_option linter.unusedVariables false

set_option maxHeartbeats 16000000 in
set_option maxRecDepth 1000000 in
theorem lawTwg (s : ByteArray) (u v : Nat) (hs : s.size ≤ maxLen) (w : World) :
    Calls Try.prog 7 #[.string s, .float .f32 u, .float .f32 v] w fun e w' => e = .returned (.bool true) ∧ Below w.heap.size w w' := by
  have hs2 : s.size ≤ 9223372036854775807 := by unfold maxLen at hs; omega
  by_cases hbig : 1048576 < s.size
  · go_enter Try.func7, Try.ntmps7
    go_wp2
    go_ret
    exact ⟨rfl, Below.refl _ _⟩
  obtain ⟨ys, zs, b, hys, hzs, hS, hI⟩ := twgBoth s u v hs2
  have HSP := Lib.hid hS
  have HIM := Lib.hid hI
  obtain ⟨p, hp⟩ : ∃ p : Nat, p = 1 + ys.length := ⟨_, rfl⟩
  obtain ⟨q, hq⟩ : ∃ q : Nat, q = p + zs.length := ⟨_, rfl⟩
  have MK1 : Hid (∀ A c lo hi w, RowCI w lo hi A ys → Calls Try.prog 31 #[.slice A ys.length c, .int .i64 1] w fun e w' => e = .returned (.int .i64 (p : Nat)) ∧ Hid (RowCI w' lo hi A (upC 1 ys.length)) ∧ Hid (ButIn lo hi w w')) := fun A c lo hi w hr => by rw [hp]; exact markN 1 A c lo hi ys w hr (by omega)
  have MK2 : Hid (∀ A c lo hi w, RowCI w lo hi A zs → Calls Try.prog 31 #[.slice A zs.length c, .int .i64 (p : Nat)] w fun e w' => e = .returned (.int .i64 (q : Nat)) ∧ Hid (RowCI w' lo hi A (upC p zs.length)) ∧ Hid (ButIn lo hi w w')) := fun A c lo hi w hr => by rw [hq]; exact markN p A c lo hi zs w hr (by omega)
  have HE1 : Hid (∀ A c lo hi w, RowCI w lo hi A (upC 1 ys.length) → Calls Try.prog 32 #[.slice A ys.length c, .int .i64 1] w fun e w' => e = .returned (.int .i64 (p : Nat)) ∧ Hid (Below w.heap.size w w')) := fun A c lo hi w hr => by rw [hp]; exact heldN 1 A c lo hi ys.length w hr (by omega)
  have HE2 : Hid (∀ A c lo hi w, RowCI w lo hi A (upC p zs.length) → Calls Try.prog 32 #[.slice A zs.length c, .int .i64 (p : Nat)] w fun e w' => e = .returned (.int .i64 (q : Nat)) ∧ Hid (Below w.heap.size w w')) := fun A c lo hi w hr => by rw [hq]; exact heldN p A c lo hi zs.length w hr (by omega)
  have hp0 : ¬ ((p : Int) < 0) := by omega
  have hq0 : ¬ ((q : Int) < 0) := by omega
  clear hp hq
  clear hS hI hs
  go_enter Try.func7, Try.ntmps7
  go_wp2_with fail
  refine (HSP.out w).mono ?_
  rintro e w3 ⟨Aw, cw, Bw, dw, l1, h1, l2, h2, rfl, RW, SW, -, z1, z2, hb3⟩
  have C3 := Lib.hid hb3.out
  clear hb3 HSP
  go_wp2_with fail
  refine (HIM.out w3).mono ?_
  rintro e w5 ⟨Ag, cg, Bg, dg, m1, n1, m2, n2, rfl, RG, SG, hd, y1, y2, hb5⟩
  have o3 := Lib.hid C3.out.size
  have o5 := Lib.hid hb5.out.size
  have r1 := Lib.hid RW.out.le
  have r2 := Lib.hid SW.out.le
  have RW5 := Lib.hid (RW.out.but (ButIn.of hb5.out) (.inr (Nat.zero_le _)))
  have SW5 := Lib.hid (SW.out.but (ButIn.of hb5.out) (.inr (Nat.zero_le _)))
  have C5 := Lib.hid (C3.out.trans (hb5.out.mono C3.out.size))
  have HD := Lib.hid hd
  have Y1 := Lib.hid y1
  have Y2 := Lib.hid y2
  clear hb5 RW SW hd y1 y2 z1 z2
  go_wp2_with fail
  refine (eqD _ _ _ _ _ _ _ _ ys w5 RG.out RW5.out (by omega)).mono ?_
  rintro e w6 ⟨rfl, hb6⟩
  have RW6 := Lib.hid (RW5.out.but (ButIn.of hb6.out) (.inr (Nat.zero_le _)))
  have SW6 := Lib.hid (SW5.out.but (ButIn.of hb6.out) (.inr (Nat.zero_le _)))
  have RG6 := Lib.hid (RG.out.but (ButIn.of hb6.out) (.inr (Nat.zero_le _)))
  have SG6 := Lib.hid (SG.out.but (ButIn.of hb6.out) (.inr (Nat.zero_le _)))
  have C6 := Lib.hid (C5.out.trans (hb6.out.mono C5.out.size))
  clear hb6 RW5 SW5 RG SG C5
  go_wp2_with fail
  refine (eqD _ _ _ _ _ _ _ _ zs w6 SG6.out SW6.out (by omega)).mono ?_
  rintro e w7 ⟨rfl, hb7⟩
  have RW7 := Lib.hid (RW6.out.but (ButIn.of hb7.out) (.inr (Nat.zero_le _)))
  have SW7 := Lib.hid (SW6.out.but (ButIn.of hb7.out) (.inr (Nat.zero_le _)))
  have RG7 := Lib.hid (RG6.out.but (ButIn.of hb7.out) (.inr (Nat.zero_le _)))
  have SG7 := Lib.hid (SG6.out.but (ButIn.of hb7.out) (.inr (Nat.zero_le _)))
  have C7 := Lib.hid (C6.out.trans (hb7.out.mono C6.out.size))
  clear hb7 RW6 SW6 RG6 SG6 C6
  go_wp2_with fail
  refine (MK1.out Ag cg m1 n1 w7 RG7.out).mono ?_
  rintro e w8 ⟨rfl, RR8, hb8⟩
  have RW8 := Lib.hid (RW7.out.but hb8.out (.inl (Nat.le_trans r1.out Y1.out)))
  have SW8 := Lib.hid (SW7.out.but hb8.out (.inl (Nat.le_trans r2.out Y1.out)))
  have SG8 := Lib.hid (SG7.out.but hb8.out (HD.out.symm))
  have C8 := Lib.hid (C7.out.trans (hb8.out.toBelow (Nat.le_trans o3.out Y1.out) C7.out.size))
  clear hb8 RW7 SW7 RG7 SG7 C7
  go_wp2_with fail
  refine (MK2.out Bg dg m2 n2 w8 SG8.out).mono ?_
  rintro e w9 ⟨rfl, RR9, hb9⟩
  have RW9 := Lib.hid (RW8.out.but hb9.out (.inl (Nat.le_trans r1.out Y2.out)))
  have SW9 := Lib.hid (SW8.out.but hb9.out (.inl (Nat.le_trans r2.out Y2.out)))
  have RG9 := Lib.hid (RR8.out.but hb9.out (HD.out))
  have C9 := Lib.hid (C8.out.trans (hb9.out.toBelow (Nat.le_trans o3.out Y2.out) C8.out.size))
  clear hb9 RW8 SW8 RR8 SG8 C8
  go_wp2_with fail
  refine (HE1.out Ag cg m1 n1 w9 RG9.out).mono ?_
  rintro e w10 ⟨rfl, hb10⟩
  have RW10 := Lib.hid (RW9.out.but (ButIn.of hb10.out) (.inr (Nat.zero_le _)))
  have SW10 := Lib.hid (SW9.out.but (ButIn.of hb10.out) (.inr (Nat.zero_le _)))
  have RG10 := Lib.hid (RG9.out.but (ButIn.of hb10.out) (.inr (Nat.zero_le _)))
  have SG10 := Lib.hid (RR9.out.but (ButIn.of hb10.out) (.inr (Nat.zero_le _)))
  have C10 := Lib.hid (C9.out.trans (hb10.out.mono C9.out.size))
  clear hb10 RW9 SW9 RG9 RR9 C9
  go_wp2_with fail
  refine (HE2.out Bg dg m2 n2 w10 SG10.out).mono ?_
  rintro e w11 ⟨rfl, hb11⟩
  have RW11 := Lib.hid (RW10.out.but (ButIn.of hb11.out) (.inr (Nat.zero_le _)))
  have SW11 := Lib.hid (SW10.out.but (ButIn.of hb11.out) (.inr (Nat.zero_le _)))
  have RG11 := Lib.hid (RG10.out.but (ButIn.of hb11.out) (.inr (Nat.zero_le _)))
  have SG11 := Lib.hid (SG10.out.but (ButIn.of hb11.out) (.inr (Nat.zero_le _)))
  have C11 := Lib.hid (C10.out.trans (hb11.out.mono C10.out.size))
  clear hb11 RW10 SW10 RG10 SG10 C10
  go_wp2_with fail
  refine (HIM.out w11).mono ?_
  rintro e w12 ⟨Ah, ch, Bh, dh, i1, j1, i2, j2, rfl, RH, SH, -, -, -, hb12⟩
  have RW12 := Lib.hid (RW11.out.but (ButIn.of hb12.out) (.inr (Nat.zero_le _)))
  have SW12 := Lib.hid (SW11.out.but (ButIn.of hb12.out) (.inr (Nat.zero_le _)))
  have RG12 := Lib.hid (RG11.out.but (ButIn.of hb12.out) (.inr (Nat.zero_le _)))
  have SG12 := Lib.hid (SG11.out.but (ButIn.of hb12.out) (.inr (Nat.zero_le _)))
  have C12 := Lib.hid (C11.out.trans (hb12.out.mono C11.out.size))
  clear hb12 RW11 SW11 RG11 SG11 C11 HIM
  go_wp2_with fail
  refine (eqD _ _ _ _ _ _ _ _ ys w12 RH.out RW12.out (by omega)).mono ?_
  rintro e w13 ⟨rfl, hb13⟩
  have RW13 := Lib.hid (RW12.out.but (ButIn.of hb13.out) (.inr (Nat.zero_le _)))
  have SW13 := Lib.hid (SW12.out.but (ButIn.of hb13.out) (.inr (Nat.zero_le _)))
  have RG13 := Lib.hid (RG12.out.but (ButIn.of hb13.out) (.inr (Nat.zero_le _)))
  have SG13 := Lib.hid (SG12.out.but (ButIn.of hb13.out) (.inr (Nat.zero_le _)))
  have RH13 := Lib.hid (RH.out.but (ButIn.of hb13.out) (.inr (Nat.zero_le _)))
  have SH13 := Lib.hid (SH.out.but (ButIn.of hb13.out) (.inr (Nat.zero_le _)))
  have C13 := Lib.hid (C12.out.trans (hb13.out.mono C12.out.size))
  clear hb13 RW12 SW12 RG12 SG12 RH SH C12
  go_wp2_with fail
  refine (eqD _ _ _ _ _ _ _ _ zs w13 SH13.out SW13.out (by omega)).mono ?_
  rintro e w14 ⟨rfl, hb14⟩
  have RW14 := Lib.hid (RW13.out.but (ButIn.of hb14.out) (.inr (Nat.zero_le _)))
  have SW14 := Lib.hid (SW13.out.but (ButIn.of hb14.out) (.inr (Nat.zero_le _)))
  have RG14 := Lib.hid (RG13.out.but (ButIn.of hb14.out) (.inr (Nat.zero_le _)))
  have SG14 := Lib.hid (SG13.out.but (ButIn.of hb14.out) (.inr (Nat.zero_le _)))
  have RH14 := Lib.hid (RH13.out.but (ButIn.of hb14.out) (.inr (Nat.zero_le _)))
  have SH14 := Lib.hid (SH13.out.but (ButIn.of hb14.out) (.inr (Nat.zero_le _)))
  have C14 := Lib.hid (C13.out.trans (hb14.out.mono C13.out.size))
  clear hb14 RW13 SW13 RG13 SG13 RH13 SH13 C13
  go_wp2_with fail
  refine (HE1.out Ag cg m1 n1 w14 RG14.out).mono ?_
  rintro e w15 ⟨rfl, hb15⟩
  have RW15 := Lib.hid (RW14.out.but (ButIn.of hb15.out) (.inr (Nat.zero_le _)))
  have SW15 := Lib.hid (SW14.out.but (ButIn.of hb15.out) (.inr (Nat.zero_le _)))
  have RG15 := Lib.hid (RG14.out.but (ButIn.of hb15.out) (.inr (Nat.zero_le _)))
  have SG15 := Lib.hid (SG14.out.but (ButIn.of hb15.out) (.inr (Nat.zero_le _)))
  have RH15 := Lib.hid (RH14.out.but (ButIn.of hb15.out) (.inr (Nat.zero_le _)))
  have SH15 := Lib.hid (SH14.out.but (ButIn.of hb15.out) (.inr (Nat.zero_le _)))
  have C15 := Lib.hid (C14.out.trans (hb15.out.mono C14.out.size))
  clear hb15 RW14 SW14 RG14 SG14 RH14 SH14 C14
  go_wp2_with fail
  refine (HE2.out Bg dg m2 n2 w15 SG15.out).mono ?_
  rintro e w16 ⟨rfl, hb16⟩
  have RW16 := Lib.hid (RW15.out.but (ButIn.of hb16.out) (.inr (Nat.zero_le _)))
  have SW16 := Lib.hid (SW15.out.but (ButIn.of hb16.out) (.inr (Nat.zero_le _)))
  have RG16 := Lib.hid (RG15.out.but (ButIn.of hb16.out) (.inr (Nat.zero_le _)))
  have SG16 := Lib.hid (SG15.out.but (ButIn.of hb16.out) (.inr (Nat.zero_le _)))
  have RH16 := Lib.hid (RH15.out.but (ButIn.of hb16.out) (.inr (Nat.zero_le _)))
  have SH16 := Lib.hid (SH15.out.but (ButIn.of hb16.out) (.inr (Nat.zero_le _)))
  have C16 := Lib.hid (C15.out.trans (hb16.out.mono C15.out.size))
  clear hb16 RW15 SW15 RG15 SG15 RH15 SH15 C15
  go_wp2_with fail
  go_ret
  exact ⟨rfl, C16.out⟩
end Go.Proofs.Ythhimielelpcoaa
