/-
  What is proved here: the law FnProducts as a walk. Conditions: the lists are ones that a machine can hold; the library's table and its longest length hold what it lays.
-/
import Derived.Test.YtckhdbnoihieeaaGreatDoorPrd
namespace Go.Proofs.YtckhdbnoihieeaaGreatDoor
open Flt Go.RowKit

theorem floatOfInt_pw (a b : Int) : floatOfInt .f32 (a * a + b * b) = pw .f32 a b := by
  have h0 : ¬ (a * a + b * b < 0) := by rw [← sq_nat, ← sq_nat]; omega
  show N .f32 (decide (a * a + b * b < 0)) _ = N .f32 false _
  rw [decide_eq_false h0]

/-- two integers as words, compared -/
theorem I_eqs {a b : Int} {x y : Nat} (hx : IsI .f32 a x) (hy : IsI .f32 b y) (h : a = b) (ha : a.natAbs ≤ 80000) : FloatKind.f32.format.order x y = some .eq := I_eq hx hy h (by omega)

theorem wrap_mul {a b : Int} (ha : a.natAbs ≤ 200) (hb : b.natAbs ≤ 200) : IntKind.i64.wrap (a * b) = a * b ∧ -40000 ≤ a * b ∧ a * b ≤ 40000 := by
  have h := mul_bd ha hb
  exact ⟨IntWalk.i64_in _ (by omega), by omega, by omega⟩

/-- what is compared of a product -/
def PostE (a b : Int) (u v : Nat) (w : World) (e : Ending) (w' : World) : Prop := ∃ r s, e = .returned (.complex .f32 r s) ∧ w = w' ∧ Hid (IsI .f32 a r ∧ IsI .f32 b s) ∧ FloatKind.f32.format.order r u = some .eq ∧ FloatKind.f32.format.order s v = some .eq
theorem postE {a b c d : Int} {u v : Nat} {w w' : World} {e : Ending} (h : PostC .f32 a b w e w') (hu : IsI .f32 c u) (hv : IsI .f32 d v) (h1 : a = c) (h2 : b = d) (ha : a.natAbs ≤ 80000) (hb : b.natAbs ≤ 80000) : PostE a b u v w e w' := by
  obtain ⟨r, s, he, hw, HI⟩ := h
  exact ⟨r, s, he, hw, HI, I_eqs HI.out.1 hu h1 ha, I_eqs HI.out.2 hv h2 hb⟩

set_option maxRecDepth 100000 in
set_option maxHeartbeats 8000000 in
theorem lawPrd (A : Option Addr) (lenA capA : Nat) (zsA : List Int) (B : Option Addr) (lenB capB : Nat) (zsB : List Int) {w : World} (ha : ListB w A lenA zsA) (hb : ListB w B lenB zsB) (ht : Tz w) (hm : Most w) :
    Calls Tryz.prog 3 #[.slice A lenA capA, .slice B lenB capB] w fun e w' => e = .returned (.bool true) ∧ Below w.heap.size w w' := by
  obtain ⟨hsA, hrA, hallA, hmA⟩ := ha
  obtain ⟨hsB, hrB, hallB, hmB⟩ := hb
  subst hsA hsB
  unfold maxLen at hmA hmB
  have HL := Lib.hid (long_any A B zsA.length capA zsB.length capB (by omega) (by omega) w)
  cases hlong : (decide (1048576 < zsA.length) || decide (1048576 < zsB.length))
  rotate_left 1
  · rw [hlong] at HL
    clear hrA hrB hallA hallB hlong ht hm
    go_enter Tryz.func3, Tryz.ntmps3
    go_wp2_with (go_at_call 4; refine HL.out.mono ?_; rintro e w' ⟨rfl, rfl⟩)
    go_ret
    exact ⟨rfl, Below.refl _ _⟩
  rw [hlong] at HL
  rw [Bool.or_eq_false_iff] at hlong
  have hA := of_decide_eq_false hlong.1
  have hB := of_decide_eq_false hlong.2
  have HLA : Hid (zsA.length ≤ 1048576) := by show zsA.length ≤ 1048576; omega
  have HLB : Hid (zsB.length ≤ 1048576) := by show zsB.length ≤ 1048576; omega
  have RA := Lib.hid hrA
  have RB := Lib.hid hrB
  have AA := Lib.hid hallA
  have AB := Lib.hid hallB
  have HT := Lib.hid ht
  have HM := Lib.hid hm
  clear hrA hrB hallA hallB hlong hA hB ht hm
  go_enter Tryz.func3, Tryz.ntmps3
  go_wp2_with (go_at_call 4; refine HL.out.mono ?_; rintro e w' ⟨rfl, rfl⟩)
  clear HL
  -- two complex numbers of small integers
  refine (whole_any A capA zsA w RA.out AA.out HLA.out).mono ?_
  rintro e w1 ⟨g1, c1, a, b, rfl, hab, hcA, B1⟩
  obtain ⟨x, hx⟩ : ∃ x, floatOfInt .f32 a = x := ⟨_, rfl⟩
  obtain ⟨y, hy⟩ : ∃ y, floatOfInt .f32 b = y := ⟨_, rfl⟩
  have IX : Hid (IsI .f32 a x ∧ IsI .f32 b y) := ⟨hx ▸ I_of .f32 a, hy ▸ I_of .f32 b⟩
  rw [hx, hy] at hcA
  have ha : a.natAbs ≤ 200 := by have := hab.out; omega
  have hb : b.natAbs ≤ 200 := by have := hab.out; omega
  clear hx hy hab
  have HAB := Lib.hid (And.intro ha hb)
  clear ha hb
  go_wp2_with fail
  clear hcA
  refine (whole_any B capB zsB w1 ((RB.out.below B1.out).mono B1.out.size) AB.out HLB.out).mono ?_
  rintro e w2 ⟨g2, c2, c, d, rfl, hcd, hcB, hb2⟩
  have B2 : Hid (Below w.heap.size w w2) := B1.out.trans (hb2.out.mono B1.out.size)
  obtain ⟨u, hu⟩ : ∃ u, floatOfInt .f32 c = u := ⟨_, rfl⟩
  obtain ⟨v, hv⟩ : ∃ v, floatOfInt .f32 d = v := ⟨_, rfl⟩
  have IU : Hid (IsI .f32 c u ∧ IsI .f32 d v) := ⟨hu ▸ I_of .f32 c, hv ▸ I_of .f32 d⟩
  rw [hu, hv] at hcB
  have hc : c.natAbs ≤ 200 := by have := hcd.out; omega
  have hd : d.natAbs ≤ 200 := by have := hcd.out; omega
  clear hu hv hcd hb2 B1
  have HCD := Lib.hid (And.intro hc hd)
  clear hc hd
  go_wp2_with fail
  clear hcB
  -- their product
  have M1 := Lib.hid (mulC_I IX.out.1 IX.out.2 IU.out.1 IU.out.2 HAB.out.1 HAB.out.2 HCD.out.1 HCD.out.2 w2)
  refine M1.out.mono ?_
  rintro e w' ⟨p, q, rfl, rfl, HP⟩
  clear M1
  have i1 := run_i32 (I_int IX.out.1 (by have := HAB.out.1; omega))
  have i2 := run_i32 (I_int IX.out.2 (by have := HAB.out.2; omega))
  have i3 := run_i32 (I_int IU.out.1 (by have := HCD.out.1; omega))
  have i4 := run_i32 (I_int IU.out.2 (by have := HCD.out.2; omega))
  obtain ⟨k1, l1, l1'⟩ := wrap_mul HAB.out.1 HCD.out.1
  obtain ⟨k2, l2, l2'⟩ := wrap_mul HAB.out.2 HCD.out.2
  obtain ⟨k3, l3, l3'⟩ := wrap_mul HAB.out.1 HCD.out.2
  obtain ⟨k4, l4, l4'⟩ := wrap_mul HAB.out.2 HCD.out.1
  obtain ⟨k5, l5, l5'⟩ := wrap_mul HAB.out.1 HAB.out.1
  obtain ⟨k6, l6, l6'⟩ := wrap_mul HAB.out.2 HAB.out.2
  have k7 : IntKind.i64.wrap (a * c - b * d) = a * c - b * d := IntWalk.i64_in _ (by omega)
  have k8 : IntKind.i64.wrap (a * d + b * c) = a * d + b * c := IntWalk.i64_in _ (by omega)
  have k9 : IntKind.i64.wrap (a * a + b * b) = a * a + b * b := IntWalk.i64_in _ (by omega)
  have o1 := I_eqs HP.out.1 (I_of .f32 (a * c - b * d)) rfl (by omega)
  have o2 := I_eqs HP.out.2 (I_of .f32 (a * d + b * c)) rfl (by omega)
  have M2 := Lib.hid ((mulC_I IU.out.1 IU.out.2 IX.out.1 IX.out.2 HCD.out.1 HCD.out.2 HAB.out.1 HAB.out.2 w2).mono fun _ _ h => postE h HP.out.1 HP.out.2 (by rw [Int.mul_comm c a, Int.mul_comm d b]) (by rw [Int.mul_comm c b, Int.mul_comm d a, Int.add_comm]) (by rw [Int.mul_comm c a, Int.mul_comm d b]; omega) (by rw [Int.mul_comm c b, Int.mul_comm d a]; omega))
  have M3 := Lib.hid (powerOf_I IX.out.1 IX.out.2 HAB.out.1 HAB.out.2 w2)
  have o3 := I_eqs (I_pw .f32 a b) (I_of .f32 (a * a + b * b)) rfl (by omega)
  have IN := Lib.hid (I_neg IX.out.2 (lg (by have := HAB.out.2; omega)))
  have CJ := Lib.hid (conj_any x y w2)
  have M4 := Lib.hid ((mulC_I IX.out.1 IX.out.2 IX.out.1 IN.out HAB.out.1 HAB.out.2 HAB.out.1 (by rw [Int.natAbs_neg]; exact HAB.out.2) w2).mono fun _ _ h => postE h (I_of .f32 (a * a + b * b)) I_zero (by rw [Int.mul_neg]; omega) (by rw [Int.mul_neg, Int.mul_comm a b]; omega) (by rw [Int.mul_neg]; omega) (by rw [Int.mul_neg, Int.mul_comm a b]; omega))
  have M5 := Lib.hid (longOf_I IX.out.1 IX.out.2 HAB.out.1 HAB.out.2 w2)
  have M6 : Hid (∀ W, Calls Tryz.prog 11 #[.float .f32 (floatOfInt .f32 (a * a + b * b))] W (FPost .f32 (nar (fsqrt (wid (can .f32 (pw .f32 a b))))) W)) := fun W => by
    have := specRoot (floatOfInt .f32 (a * a + b * b)) W
    rwa [show can .f32 (floatOfInt .f32 (a * a + b * b)) = can .f32 (pw .f32 a b) by rw [floatOfInt_pw]] at this
  clear l1 l1' l2 l2' l3 l3' l4 l4' l5 l5' l6 l6'
  go_wp2_with fail
  clear i1 i2 i3 i4 k1 k2 k3 k4 k5 k6 k7 k8 k9 o1 o2
  refine M2.out.mono ?_
  rintro e w' ⟨p2, q2, rfl, rfl, _, o4, o5⟩
  go_wp2_with fail
  clear M2 o4 o5
  refine M3.out.mono ?_
  rintro e w' ⟨rfl, rfl⟩
  go_wp2_with fail
  clear M3 o3
  refine CJ.out.mono ?_
  rintro e w' ⟨rfl, rfl⟩
  go_wp2_with fail
  clear CJ
  refine M4.out.mono ?_
  rintro e w' ⟨p3, q3, rfl, rfl, _, o6, o7⟩
  go_wp2_with fail
  clear M4 o6 o7
  refine M5.out.mono ?_
  rintro e w' ⟨s1, n1, rfl, rfl, hs1, ws1⟩
  go_wp2_with fail
  clear M5
  refine (M6.out _).mono ?_
  rintro e w' ⟨s2, n2, rfl, rfl, hs2, ws2⟩
  have W1 := Lib.hid ws1
  have W2 := Lib.hid ws2
  clear M6 ws1 ws2
  go_wp2_with fail
  refine (specSame_yes s1 s2 W1.out W2.out (bitsV_of (hs1.out.trans hs2.out.symm)) _).mono ?_
  rintro e w' ⟨rfl, n3, rfl⟩
  clear W1 W2 hs1 hs2 IN
  have SC := Lib.hid (fun W => scale_I IX.out.1 IX.out.2 HAB.out.1 HAB.out.2 W)
  have DB : Hid (∃ m n, (∀ W, (binOp .add 24 (.complex .f32 x y) (.complex .f32 x y)).run Tryz.prog W = .ok (.complex .f32 m n) W) ∧ IsI .f32 (a + a) m ∧ IsI .f32 (b + b) n) := by
    obtain ⟨m, hm, im⟩ := I_add IX.out.1 IX.out.1 (lg (by have := HAB.out.1; omega)) (lg (by have := HAB.out.1; omega)) (lg (by have := HAB.out.1; omega))
    obtain ⟨n, hn, inn⟩ := I_add IX.out.2 IX.out.2 (lg (by have := HAB.out.2; omega)) (lg (by have := HAB.out.2; omega)) (lg (by have := HAB.out.2; omega))
    exact ⟨m, n, fun W => run_complex_sum W .add (.inl rfl) _ .f32 x y x y m n (by unfold cSumBits; rw [hm, hn]; rfl), im, inn⟩
  obtain ⟨m, n, da, im, inn⟩ := DB.out
  have IM := Lib.hid (And.intro im inn)
  clear im inn DB
  have DR : Hid (IsI .f32 a x ∧ IsI .f32 b y) := IX
  have Q : (FloatKind.f32.format.order u 0 = some .eq ∧ FloatKind.f32.format.order v 0 = some .eq) ∨ ((FloatKind.f32.format.order u 0 == some .eq) = false ∧ Hid (c ≠ 0 ∨ d ≠ 0)) ∨ (FloatKind.f32.format.order u 0 = some .eq ∧ (FloatKind.f32.format.order v 0 == some .eq) = false ∧ Hid (c ≠ 0 ∨ d ≠ 0)) := by
    have hc := HCD.out.1
    have hd := HCD.out.2
    by_cases h1 : c = 0
    · by_cases h2 : d = 0
      · exact .inl ⟨I_eqs IU.out.1 I_zero h1 (by omega), I_eqs IU.out.2 I_zero h2 (by omega)⟩
      · exact .inr (.inr ⟨I_eqs IU.out.1 I_zero h1 (by omega), I_ne IU.out.2 I_zero h2 (by omega) (by decide), .inr h2⟩)
    · exact .inr (.inl ⟨I_ne IU.out.1 I_zero h1 (by omega) (by decide), .inl h1⟩)
  have QF : Hid (∀ W, (c ≠ 0 ∨ d ≠ 0) → Calls Tryz.prog 12 #[.complex .f32 p q, .complex .f32 u v] W (PostE a b x y W)) := fun W h =>
    (quot_I HP.out.1 HP.out.2 IU.out.1 IU.out.2 HAB.out.1 HAB.out.2 HCD.out.1 HCD.out.2 h W).mono fun _ _ hh => postE hh IX.out.1 IX.out.2 rfl rfl (by have := HAB.out.1; omega) (by have := HAB.out.2; omega)
  have SF : Hid (∀ W, Calls Tryz.prog 13 #[.complex .f32 x y, .float .f32 1073741824] W (PostE (a * 2) (b * 2) m n W)) := fun W =>
    (SC.out W).mono fun _ _ hh => postE hh IM.out.1 IM.out.2 (by omega) (by omega) (by have := HAB.out.1; omega) (by have := HAB.out.2; omega)
  clear SC
  have RA2 : ∀ n, Hid (RowB (w2.drewN n) w.heap.size A zsA) := fun n => RA.out.below (below_drew B2.out)
  have RB2 : ∀ n, Hid (RowB (w2.drewN n) (w2.drewN n).heap.size B zsB) := fun n => (RB.out.below (below_drew B2.out)).mono B2.out.size
  rcases Q with ⟨z1, z2⟩ | ⟨z1, HN⟩ | ⟨z1, z2, HN⟩
  all_goals
    go_wp2_with (first | (go_at_call 12; refine (QF.out _ HN.out).mono ?_; rintro e w' ⟨p4, q4, rfl, rfl, _, o10, o11⟩) | (go_at_call 13; refine (SF.out _).mono ?_; rintro e w' ⟨p5, q5, rfl, rfl, _, o8, o9⟩))
    try clear z2
    try clear o10 o11
    clear z1 QF SF da IM o8 o9 HP IX IU HAB HCD DR
    -- a list, its text, and back
    refine (b10At_any A capA zsA 0 9 _ w.heap.size (RA2 _).out AA.out HLA.out (by omega) (by omega) (by omega)).mono ?_
    rintro e w' ⟨i, hi, rfl, rfl⟩
    go_wp2_with fail
    refine (anyC_any i (by omega) B capB zsB _ (RB2 _).out AB.out HLB.out).mono ?_
    rintro e w3 ⟨g, c3, L, rfl, hL, HAL, HO, hb3⟩
    have B3 : Hid (Below w.heap.size w w3) := (below_drew B2.out).trans (hb3.out.mono B2.out.size)
    have hl : L.length ≤ 256 := by have := hL.out; omega
    have RL : Hid (RowC w3 w3.heap.size (some ⟨g, 0, none⟩) L) := HO.out.row
    clear hL HO hb3 RA2 RB2 RB AB HLB B2 hi
    go_wp2_with fail
    refine (implCTx _ _ L _ RL.out HAL.out hl (HT.out.below B3.out)).mono ?_
    rintro e w4 ⟨rfl, hb4⟩
    have B4 : Hid (Below w.heap.size w w4) := B3.out.trans (hb4.mono B3.out.size)
    have RL4 : Hid (RowC w4 w4.heap.size (some ⟨g, 0, none⟩) L) := (RL.out.below hb4).mono hb4.size
    clear RL B3 hb4
    go_wp2_with fail
    refine (read_backC L hl HAL.out w4 (HM.out.below B4.out)).mono ?_
    rintro e w5 ⟨A5, c5, rfl, hO5, hb5⟩
    have B5 : Hid (Below w.heap.size w w5) := B4.out.trans (hb5.out.mono B4.out.size)
    have RL5 : Hid (RowC w5 w5.heap.size (some ⟨g, 0, none⟩) L) := (RL4.out.below hb5.out).mono hb5.out.size
    have RQ5 : Hid (RowC w5 w5.heap.size A5 (L.map bitsC)) := hO5.out.row
    have RA5 : Hid (RowB w5 w5.heap.size A zsA) := (RA.out.below B5.out).mono B5.out.size
    clear B4 RL4 hb5 hO5
    go_wp2_with fail
    -- a number, its bits, and back
    refine (number_any A capA zsA w5 RA5.out AA.out HLA.out).mono ?_
    rintro e w6 ⟨z, rfl, hz, hb6⟩
    have HZ := Lib.hid hz
    have hz2 : (z : Int) ≤ 4294967295 := by have := hz.lt32; omega
    have hz3 : (bitsN z : Int) ≤ 4294967295 := by have := bitsN_lt hz; omega
    have HFN := Lib.hid (fun W => fromN (bitsN z) hz3 W)
    have HBN := Lib.hid (fun W => bitsN_call z hz2 W)
    clear hz hz2 hz3
    go_wp2_with fail
    refine (HBN.out _).mono ?_
    rintro e w' ⟨rfl, n6, rfl⟩
    go_wp2_with fail
    refine (HFN.out _).mono ?_
    rintro e w' ⟨rfl, rfl⟩
    go_wp2_with fail
    -- a complex number
    have B6 : Hid (Below w.heap.size w (w6.drewN n6)) := below_drew (B5.out.trans (hb6.out.mono B5.out.size))
    have RA6 : Hid (RowB (w6.drewN n6) (w6.drewN n6).heap.size A zsA) := (RA.out.below B6.out).mono B6.out.size
    refine (complex_any A capA zsA (w6.drewN n6) RA6.out AA.out HLA.out).mono ?_
    rintro e w7 ⟨p7, q7, rfl, HPQ, hb7⟩
    have hb8 : Hid (Below w5.heap.size (w6.drewN n6) w7) := hb7.out.mono hb6.out.size
    have B7 : Hid (Below w.heap.size w w7) := B6.out.trans (hb7.out.mono B6.out.size)
    have RL7 : Hid (RowC w7 w5.heap.size (some ⟨g, 0, none⟩) L) := ((RL5.out.below hb6.out).drew (n := n6)).below hb8.out
    have RQ7 : Hid (RowC w7 w5.heap.size A5 (L.map bitsC)) := ((RQ5.out.below hb6.out).drew (n := n6)).below hb8.out
    clear HFN HBN B6 RA6 RA5 RL5 RQ5 hb6 hb7 hb8 B5 RA AA HLA HT HM
    go_wp2_with ((with_reducible refine upon_wid ?_ ?_ ?_); rotate_left 2; intro _ _ _ _; rotate_left 1; kernel_rfl; kernel_rfl)
    rename_i r1 m1 _ h1 r2 m2 _ h2 _ _ _ _
    refine (b10Same_yes A5 (some ⟨g, 0, none⟩) c5 c3 L _ w5.heap.size RQ7.out.drew RL7.out.drew HAL.out (by omega)).mono ?_
    rintro e w' ⟨rfl, n8, rfl⟩
    go_wp2_with fail
    refine (specSame_yes (bitsN z) z (bitsN_wf HZ.out) HZ.out (bitsV_twice _) _).mono ?_
    rintro e w' ⟨rfl, n9, rfl⟩
    go_wp2_with fail
    refine (narrowC_back p7 q7 r1 r2 HPQ.out.1 HPQ.out.2 h1.out h2.out _).mono ?_
    rintro e w' ⟨g8, h8, n10, rfl, rfl, HN8⟩
    go_wp2_with fail
    refine (implSameC g8 h8 p7 q7 HN8.out.1.2 HN8.out.2.2 HPQ.out.1 HPQ.out.2 (bitsV_of HN8.out.1.1) (bitsV_of HN8.out.2.1) _).mono ?_
    rintro e w' ⟨rfl, n11, rfl⟩
    go_wp2_with fail
    refine (conj_any p7 q7 _).mono ?_
    rintro e w' ⟨rfl, rfl⟩
    go_wp2_with fail
    refine (conj_any p7 (Op.negFloat .f32 q7) _).mono ?_
    rw [neg_twice]
    rintro e w' ⟨rfl, rfl⟩
    go_wp2_with fail
    refine (implSameC p7 q7 p7 q7 HPQ.out.1 HPQ.out.2 HPQ.out.1 HPQ.out.2 rfl rfl _).mono ?_
    rintro e w' ⟨rfl, n12, rfl⟩
    obtain ⟨b1, hb1⟩ : ∃ b1, finB .f32 p7 = b1 := ⟨_, rfl⟩
    obtain ⟨b2, hb2⟩ : ∃ b2, finB .f32 q7 = b2 := ⟨_, rfl⟩
    have HB1 := Lib.hid hb1
    have HB2 := Lib.hid hb2
    have HFC : Hid (∀ W, Calls Tryz.prog 25 #[.complex .f32 p7 q7] W fun e w' => e = .returned (.bool (b1 && b2)) ∧ ∃ n, w' = W.drewN n) := fun W => by
      have := implFinC p7 q7 W
      rwa [hb1, hb2] at this
    clear hb1 hb2
    cases b1
    all_goals
      cases b2
      all_goals
        go_wp2_with (first | (go_at_call 25; refine (HFC.out _).mono ?_; rintro e w' ⟨rfl, n13, rfl⟩) | (go_at_call 26; ((with_reducible refine (specIsFin p7 _ HB1.out _).mono ?_); rintro e w' ⟨rfl, n14, rfl⟩)) | (go_at_call 26; ((with_reducible refine (specIsFin q7 _ HB2.out _).mono ?_); rintro e w' ⟨rfl, n15, rfl⟩)))
        go_ret
        exact ⟨rfl, below_drew B7.out⟩

end Go.Proofs.YtckhdbnoihieeaaGreatDoor
