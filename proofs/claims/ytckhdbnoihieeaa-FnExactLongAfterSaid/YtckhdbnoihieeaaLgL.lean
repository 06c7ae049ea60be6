/-
  What is proved here: the law LongAfter, as a walk. Conditions: the grammar is one that a machine can hold.
-/
import Derived.Test.YtckhdbnoihieeaaLtL
namespace Go.Proofs.Ytckhdbnoihieeaa
open Go.RowKit Go.Maps

/-- how many moves the start becomes -/
def ltV (st : ByteArray) (n : Nat) (ss : List ByteArray) (q : Int) : Int := match ltO st n ss q with | some f => f 5 | none => 0
theorem ltV_no {st : ByteArray} {n : Nat} {ss : List ByteArray} {q : Int} (h : ltO st n ss q = none) : ltV st n ss q = 0 ∧ ltBo st n ss q = false := by unfold ltV ltBo; rw [h]; exact ⟨rfl, rfl⟩
theorem ltV_yes {st : ByteArray} {n : Nat} {ss : List ByteArray} {q : Int} {f : Nat → Int} (h : ltO st n ss q = some f) : ltV st n ss q = f 5 ∧ ltBo st n ss q = true := by unfold ltV ltBo; rw [h]; exact ⟨rfl, rfl⟩

theorem specLg (n c : Nat) (A : Option Addr) (st : ByteArray) (ss : List ByteArray) (q : Int) (w : World) (hr : RowU w w.heap.size A ss) (hn : ss.length = 2 * n) (hN : n ≤ 1048576) (hst : st.size ≤ 9223372036854775807) (hS : ∀ j, (atS ss j).size ≤ 1048576) :
    Calls Try.prog 38 #[.agg #[.string st, .slice A n c], .int .i64 q] w fun e w' => e = .returned (.tuple #[.int .i64 (ltV st n ss q), .bool (ltBo st n ss q)]) ∧ Hid (Below w.heap.size w w') := by
  have B0 : Below w.heap.size w (w.alloc (.cells #[.string st, .slice A n c] 56)) := (Below.refl _ _).alloc (Nat.le_refl _) _
  have V0 := varG_new w st A n c 56
  have HC := Lib.hid (specLtr n c A st ss q _ ((hr.carry B0)) hn hN hst hS)
  have HB := Lib.hid B0
  have c0 := V0.c0
  have c1 := V0.c1
  clear hr B0 V0
  go_enter Try.func38, Try.ntmps38
  go_wp2_with fail
  refine HC.out.mono ?_
  intro e w1 hP
  unfold LtQ ltBo ltLn ltFn at hP
  cases ho : ltO st n ss q with
  | none =>
    have N := ltV_no ho
    have N1 := Lib.hid N.1
    have N2 := Lib.hid N.2
    clear N
    rw [ho] at hP
    obtain ⟨A1, k1, rfl, hrw, hb⟩ := hP
    have HE : Hid (Below w.heap.size w w1) := HB.out.trans (hb.out.mono HB.out.size)
    clear hb hrw HC ho c0 c1
    go_wp2_with fail
    go_ret2
    exact ⟨by rw [N1.out, N2.out]; rfl, HE⟩
  | some f =>
    have N := ltV_yes ho
    have N1 := Lib.hid N.1
    have N2 := Lib.hid N.2
    clear N
    rw [ho] at hP
    obtain ⟨A1, k1, rfl, hrw, hb⟩ := hP
    have HE : Hid (Below w.heap.size w w1) := HB.out.trans (hb.out.mono HB.out.size)
    obtain ⟨g, o, rfl, -, -, hc, -⟩ := hrw.out.row (by simp)
    have hc5 : w1.cell? ⟨g, o + 5, none⟩ = some (.int .i64 (f 5)) := hc 5 (by simp)
    clear hb hrw HC ho c0 c1 hc
    go_wp2_with fail
    go_ret2
    exact ⟨by rw [N1.out, N2.out]; rfl, HE⟩

theorem implLg (n c : Nat) (A : Option Addr) (st : ByteArray) (ss : List ByteArray) (q : Int) (w : World) (hr : RowU w w.heap.size A ss) (hn : ss.length = 2 * n) (hN : n ≤ 1048576) :
    Calls Try.prog 39 #[.agg #[.string st, .slice A n c], .int .i64 q] w fun e w' => e = .returned (.tuple #[.int .i64 (ltV st n ss q), .bool (ltBo st n ss q)]) ∧ Hid (Below w.heap.size w w') := by
  have B0 : Below w.heap.size w (w.alloc (.cells #[.string st, .slice A n c] 56)) := (Below.refl _ _).alloc (Nat.le_refl _) _
  have V0 := varG_new w st A n c 56
  have HC := Lib.hid (implLtr n c A st ss q _ ((hr.carry B0)) hn hN)
  have HB := Lib.hid B0
  have c0 := V0.c0
  have c1 := V0.c1
  clear hr B0 V0
  go_enter Try.func39, Try.ntmps39
  go_wp2_with fail
  refine HC.out.mono ?_
  intro e w1 hP
  unfold LtQ ltBo ltLn ltFn at hP
  cases ho : ltO st n ss q with
  | none =>
    have N := ltV_no ho
    have N1 := Lib.hid N.1
    have N2 := Lib.hid N.2
    clear N
    rw [ho] at hP
    obtain ⟨A1, k1, rfl, hrw, hb⟩ := hP
    have HE : Hid (Below w.heap.size w w1) := HB.out.trans (hb.out.mono HB.out.size)
    clear hb hrw HC ho c0 c1
    go_wp2_with fail
    go_ret2
    exact ⟨by rw [N1.out, N2.out]; rfl, HE⟩
  | some f =>
    have N := ltV_yes ho
    have N1 := Lib.hid N.1
    have N2 := Lib.hid N.2
    clear N
    rw [ho] at hP
    obtain ⟨A1, k1, rfl, hrw, hb⟩ := hP
    have HE : Hid (Below w.heap.size w w1) := HB.out.trans (hb.out.mono HB.out.size)
    obtain ⟨g, o, rfl, -, -, hc, -⟩ := hrw.out.row (by simp)
    have hc5 : w1.cell? ⟨g, o + 5, none⟩ = some (.int .i64 (f 5)) := hc 5 (by simp)
    clear hb hrw HC ho c0 c1 hc
    go_wp2_with fail
    go_ret2
    exact ⟨by rw [N1.out, N2.out]; rfl, HE⟩

set_option maxHeartbeats 8000000 in
set_option maxRecDepth 1000000 in
theorem lawLg (st : ByteArray) (A : Option Addr) (n c : Nat) (ss : List ByteArray) (q : Int) {w : World} (G : GramIn w st A n ss) :
    Calls Try.prog 10 #[.agg #[.string st, .slice A n c], .int .i64 q] w fun e w' => e = .returned (.bool true) ∧ Below w.heap.size w w' := by
  obtain ⟨hr, hn, hN, hst, hS⟩ := G
  have B0 : Below w.heap.size w (w.alloc (.cells #[.string st, .slice A n c] 49)) := (Below.refl _ _).alloc (Nat.le_refl _) _
  have HV := Lib.hid (varG_new w st A n c 49)
  have HZ := Lib.hid (szGrammar_is st A n c ss 1048576 _ (hr.carry B0) hn hN hst hS (Nat.le_refl _))
  have HR := Lib.hid hr
  have HL := Lib.hid hn
  have HB := Lib.hid B0
  have HX : Hid (w.heap.size < (w.alloc (.cells #[.string st, .slice A n c] 49)).heap.size) := by show _ < _; simp
  clear hr hn hS B0
  go_enter Try.func10, Try.ntmps10
  go_wp2_with fail
  generalize w.alloc (.cells #[.string st, .slice A n c] 49) = a0 at *
  generalize hX : w.heap.size = X at *
  have HXX := Lib.hid hX
  clear hX
  refine HZ.out.mono ?_
  rintro e w1 ⟨r, rfl, hsz, hb⟩
  have B1 : Hid (Below X w w1) := HB.out.trans (hb.mono (Nat.le_of_lt HX.out))
  have V1 := Lib.hid (HV.out.below hb)
  have x1 : Hid (X < w1.heap.size) := V1.out.lt
  clear hb HZ HB HV HX
  by_cases hr0 : r < 0
  · go_wp2_with fail
    go_ret
    exact ⟨rfl, by rw [HXX.out]; exact B1.out⟩
  · obtain ⟨s1, s2, s3⟩ := hsz.out.1 (by omega)
    have HS : Hid (∀ j, (atS ss j).size ≤ 1048576) := atS_littl s3
    have hr1 : 0 ≤ r := by omega
    clear s3 hsz hr0
    have c0 := V1.out.c0
    have c1 := V1.out.c1
    have hR1 : RowU w1 w1.heap.size A ss := (HR.out.below B1.out).mono (Nat.le_of_lt x1.out)
    have H1 := Lib.hid (toGrammar_is st A n c ss w1 hR1 HL.out s2)
    clear hR1
    go_wp2_with fail
    -- what the model answers
    refine H1.out.mono ?_
    rintro e w2 ⟨g2, rfl, l2, t2, O2, hb2⟩
    have B2 : Hid (Below X w w2) := B1.out.trans (hb2.out.mono (Nat.le_of_lt x1.out))
    have V2 := Lib.hid (V1.out.below hb2.out)
    have x2 : Hid (X < w2.heap.size) := V2.out.lt
    clear H1 c0 c1 V1 B1 x1 hb2 l2 t2
    go_wp2_with fail
    refine (specLg n n (some ⟨g2, 0, none⟩) st ss q w2 O2.out.row HL.out s2 hst HS.out).mono ?_
    rintro e w3 ⟨rfl, hb3⟩
    have B3 : Hid (Below X w w3) := B2.out.trans (hb3.out.mono (Nat.le_of_lt x2.out))
    have V3 := Lib.hid (V2.out.below hb3.out)
    have x3 : Hid (X < w3.heap.size) := V3.out.lt
    clear hb3 B2 V2 x2 O2
    have c0 := V3.out.c0
    have c1 := V3.out.c1
    have hR3 : RowU w3 w3.heap.size A ss := (HR.out.below B3.out).mono (Nat.le_of_lt x3.out)
    have H3 := Lib.hid (toGrammar_is st A n c ss w3 hR3 HL.out s2)
    clear hR3
    go_wp2_with fail
    -- the copy that the program gets
    refine H3.out.mono ?_
    rintro e w4 ⟨g4, rfl, l4, t4, O4, hb4⟩
    have B4 : Hid (Below X w w4) := B3.out.trans (hb4.out.mono (Nat.le_of_lt x3.out))
    have V4 := Lib.hid (V3.out.below hb4.out)
    have x4 : Hid (X < w4.heap.size) := V4.out.lt
    clear H3 c0 c1 V3 B3 x3 hb4 l4 t4
    have hb5 : Below w4.heap.size w4 (w4.alloc (.cells #[.string st, .slice (some ⟨g4, 0, none⟩) n n] 56)) := (Below.refl _ _).alloc (Nat.le_refl _) _
    have U5 := Lib.hid (varG_new w4 st (some ⟨g4, 0, none⟩) n n 56)
    have O5 := Lib.hid (O4.out.below hb5)
    have B5 := Lib.hid (B4.out.trans (hb5.mono (Nat.le_of_lt x4.out)))
    have V5 := Lib.hid (V4.out.below hb5)
    have x5 : Hid (X < w4.heap.size) := x4
    clear hb5 O4 B4 V4 x4
    go_wp2_with fail
    generalize w4.alloc (.cells #[.string st, .slice (some ⟨g4, 0, none⟩) n n] 56) = a5 at *
    generalize w4.heap.size = y5 at *
    refine (implLg n n (some ⟨g4, 0, none⟩) st ss q a5 O5.out.row HL.out s2).mono ?_
    rintro e w6 ⟨rfl, hb6⟩
    have y6 : y5 < w6.heap.size := (U5.out.below hb6.out).lt
    have U6 := Lib.hid (U5.out.below hb6.out)
    have O6 := Lib.hid (O5.out.below hb6.out)
    have V6 := Lib.hid (V5.out.below hb6.out)
    have x6 : X < w6.heap.size := V6.out.lt
    have B6 : Hid (Below X w w6) := B5.out.trans (hb6.out.mono (Nat.le_of_lt V5.out.lt))
    clear hb6 U5 O5 V5 B5 x5
    -- the copy is as it was
    have c0 := V6.out.c0
    have c1 := V6.out.c1
    have d0 := U6.out.c0
    have d1 := U6.out.c1
    have hR6 : Hid (RowU w6 w6.heap.size A ss) := (HR.out.below B6.out).mono (Nat.le_of_lt x6)
    have hO6 : Hid (RowU w6 w6.heap.size (some ⟨g4, 0, none⟩) ss) := O6.out.row
    have K0 : Hid (Below w6.heap.size w6 w6.drew) := (Below.refl _ _).drew
    clear V6 U6 O6
    go_wp2_with fail
    go_region_held3 (fun w' => w'.cell? ⟨y5, 0, none⟩ = some (.string st) ∧ w'.cell? ⟨y5, 1, none⟩ = some (.slice (some ⟨g4, 0, none⟩) n n) ∧ w'.cell? ⟨X, 0, none⟩ = some (.string st) ∧ w'.cell? ⟨X, 1, none⟩ = some (.slice A n c) ∧ Hid (Below w6.heap.size w6 w')) (first | (exact ⟨by assumption, by assumption, by assumption, by assumption, by assumption⟩) | go_keep)
      (first
        | ((go_at_call 31; refine (toGrammar_is st A n c ss _ (hR6.out.carry ((‹Hid (Below w6.heap.size w6 _)›).out)) HL.out s2).mono ?_; rintro e w7 ⟨g7, rfl, l7, t7, O7, hb7⟩; have K7 := Lib.hid ((‹Hid (Below w6.heap.size w6 _)›).out.trans (hb7.out.mono (‹Hid (Below w6.heap.size w6 _)›).out.size)); obtain ⟨e0, e1⟩ := keepL (x := X) hb7.out (by assumption) (by assumption) (by assumption) x6; obtain ⟨f0, f1⟩ := keepL (x := y5) hb7.out (by assumption) (by assumption) (by assumption) y6))
        | ((go_at_call 34; refine (eqGrammar_is st _ _ n _ _ ss _ _ (Nat.le_refl _) (hO6.out.carry (‹Hid (Below w6.heap.size w6 _)›).out) (‹Hid (OwnU _ _ _ ss)›).out.row HL.out s2).mono ?_; rintro e w8 ⟨rfl, hb8⟩; have K8 := Lib.hid ((‹Hid (Below w6.heap.size w6 _)›).out.trans (hb8.out.mono (‹Hid (Below w6.heap.size w6 _)›).out.size)); obtain ⟨e0, e1⟩ := keepL (x := X) hb8.out (by assumption) (by assumption) (by assumption) x6; obtain ⟨f0, f1⟩ := keepL (x := y5) hb8.out (by assumption) (by assumption) (by assumption) y6)))
    have HE := Lib.hid (B6.out.trans ((‹Hid (Below w6.heap.size w6 w8)›).out.mono (Nat.le_of_lt x6)))
    go_wp2_with fail
    go_ret
    exact ⟨rfl, by rw [HXX.out]; exact HE.out⟩

end Go.Proofs.Ytckhdbnoihieeaa
